/- For all numbers, GapMany returns true: long lists, what of an error is told first, the bounds. No conditions. -/
import Derived.Test.YtihbpbdcpnpiaaaRows
import Derived.Test.YtihbpbdcpnpiaaaGapP
import Derived.Test.YtihbpbdcpnpiaaaGapO
import Derived.OpenShut
import Derived.ChangeOld
namespace Go.Proofs.Ytihbpbdcpnpiaaa.gapMany
open Go.ChangeShapes Go.WideShapes Go.ChangeAt Go.RowKit

set_option maxRecDepth 100000 in
set_option maxHeartbeats 8000000 in
theorem walk (m : Int) (w : World) (hm : (Lit.int .u8 m).wf = true) :
    Calls Try.prog 13 #[.int .u8 m] w fun e w' => e = .returned (.bool true) ∧ Below w.heap.size w w' := by
  obtain ⟨m0, m1⟩ := u8_in hm
  clear hm
  have e1 : m.tmod 4 = m % 4 := Int.tmod_eq_emod_of_nonneg m0
  obtain ⟨r, hr⟩ : ∃ r, m % 4 = r := ⟨_, rfl⟩
  rw [hr] at e1
  have r0 : 0 ≤ r ∧ r ≤ 3 := by omega
  obtain ⟨K, hK⟩ : ∃ K, r - 2 = K := ⟨_, rfl⟩
  obtain ⟨n, hn⟩ : ∃ n : Nat, 100000 + K = (n : Int) := ⟨(100000 + K).toNat, by omega⟩
  have NB : Hid (99998 ≤ n ∧ n ≤ 100001 ∧ K = (n : Int) - 100000) := Lib.hid (by omega)
  have v0 : IntKind.u8.wrap r = r := by rw [IntKind.wrap_u8]; omega
  have v1 : IntKind.i64.wrap r = r := by rw [IntKind.wrap_i64]; omega
  have v2 : IntKind.i64.wrap (r - 2) = K := by rw [IntKind.wrap_i64]; omega
  have v3 : IntKind.i64.wrap (100000 + K) = (n : Int) := by rw [IntKind.wrap_i64]; omega
  clear hr hK hn r0 m0 m1
  have MK := mk_any n (by have := NB.out; omega)
  have O0 := Lib.hid (OwnG.made w n (by have := NB.out; unfold maxLen; omega))
  go_enter Try.func13, Try.ntmps13
  go_wp2_with fail
  go_loopw [37] (fun iv wr => ∃ k : Nat, k ≤ n ∧ iv = .int .i64 k ∧ Hid (OwnG w w.heap.size n (Gp.fl n k) wr)) (fun iv _ => n - (intOf iv).toNat)
  case atStart => exact ⟨0, by omega, rfl, O0⟩
  case round =>
    obtain ⟨k, hk, rfl, ho⟩ := hrel
    by_cases lt : k < n
    · have e0 : decide ((k : Int) < (n : Int)) = true := by rw [decide_eq_true_iff]; omega
      have nb := NB.out.2.1
      have wi : IntKind.i64.wrap ((k : Int) + 1) = (k : Int) + 1 := by rw [IntKind.wrap_i64]; omega
      have w3 : IntKind.i64.wrap (3 * (k : Int)) = 3 * (k : Int) := by rw [IntKind.wrap_i64]; omega
      have cl := ho.out.cell k lt
      have fz := ho.out.frozen k
      have H2 := Lib.hid (ho.out.stored k (3 * (k : Int)))
      rw [Gp.fl_set lt] at H2
      obtain ⟨z, hz⟩ : ∃ z, (Gp.fl n k).getD k 0 = z := ⟨_, rfl⟩
      rw [hz] at cl
      clear hz nb ho
      go_wp2_with fail
      go_roundw
      case rel => exact ⟨k + 1, by omega, by go_num, H2⟩
      case measure => simp [intOf]; omega
    · have e0 : decide ((k : Int) < (n : Int)) = false := by rw [decide_eq_false_iff_not]; omega
      obtain rfl : n = k := by omega
      have B0 : Hid (Below w.heap.size w wr) := Lib.hid ho.out.own.below
      have LN := Lib.hid (Gp.fl_len n n)
      have L0 := ho
      have n6 := NB.out.2.1
      have N6 : n ≤ 1000000 := by omega
      clear ho lt hk n6 MK O0 v0 v1 v2 v3 e1
      by_cases big : 100000 < n
      · have d1 : decide (0 < K) = true := by have := NB.out; rw [decide_eq_true_iff]; omega
        have d2 : 0 < K := by have := NB.out; omega
        have E1 := err_long1 (l := Gp.fl n n) (by rw [Gp.fl_len]; exact big)
        have F1 : errW (Gp.fl n n) 7 = 12 := by rw [errW_not (by rw [E1]; decide), E1]
        have F2 : errW (Gp.fl n n) 3 = 12 := by rw [errW_not (by rw [E1]; decide), E1]
        have MO := Lib.hid (fun v W h => most_any v (Gp.fl n n) 7 0 0 (mostO_not (by rw [F1]; decide)) W h)
        have CO := Lib.hid (fun v W h => cover_any v (Gp.fl n n) 3 0 (coverO_not (by rw [F2]; decide)) W h)
        rw [F1] at MO
        rw [F2] at CO
        clear E1 F1 F2
        obtain ⟨l, hl⟩ : ∃ l, Gp.fl n n = l := ⟨_, rfl⟩
        rw [hl] at MO CO L0 LN
        have LB : Hid (100000 < (l.set 0 (-1)).length) := Lib.hid (by rw [List.length_set, LN.out]; exact big)
        have z0 : 0 < n := by omega
        have z1 : (0 : Int) < (n : Int) := by omega
        have EN := Lib.hid (fun v W h => near_any v (l.set 0 (-1)) (-1) 0 12 (near_long LB.out (-1)) W h)
        have EM := Lib.hid (fun v u W h h' => merge_any v u [-1] (l.set 0 (-1)) W h h')
        rw [err_long2 LB.out [-1]] at EM
        clear hl
        go_wp2_with fail
        refine (MO.out _ _ (L0.out.rowT N6)).mono ?_
        rintro e V1 ⟨rfl, b⟩
        have B1 := Lib.hid (below_next B0.out b)
        have L1 := Lib.hid (L0.out.below b)
        clear b
        clear L0 B0
        go_wp2_with fail
        refine (CO.out _ _ (L1.out.rowT N6)).mono ?_
        rintro e V2 ⟨rfl, b⟩
        have B2 := Lib.hid (below_next B1.out b)
        have L2 := Lib.hid (L1.out.below b)
        clear b
        clear L1 B1
        have c0 := L2.out.cell 0 z0
        have f0 := L2.out.frozen 0
        have G2 := L2.out.ge
        have L3 := Lib.hid (L2.out.stored 0 (-1))
        have B3 := Lib.hid (B2.out.setCell (p := ⟨w.heap.size, 0, none⟩) G2 (.int .i64 (-1)))
        obtain ⟨z, hz⟩ : ∃ z, l.getD 0 0 = z := ⟨_, rfl⟩
        rw [hz] at c0
        clear hz G2 L2 B2
        go_wp2_with fail
        obtain ⟨S, hS⟩ : ∃ S, V2.setCell ⟨w.heap.size, 0, none⟩ (.int .i64 (-1)) = S := ⟨_, rfl⟩
        rw [hS] at L3 B3
        simp only [hS]
        clear hS
        refine (EN.out _ _ (L3.out.rowT N6)).mono ?_
        rintro e V4 ⟨rfl, b⟩
        have B4 := Lib.hid (below_next B3.out b)
        have L4 := Lib.hid (L3.out.below b)
        clear b
        clear L3 B3
        go_wp2_with fail
        refine (EM.out _ _ _ (RowT.lit V4 [-1] 1 rfl #[.int .i64 (-1)] rfl (by decide)) ((L4.out.alloc _).rowT N6)).mono ?_
        rintro e V5 ⟨u5, rfl, o5⟩
        have B5 := Lib.hid (below_next (below_new B4.out _) o5.below)
        clear o5
        clear L4 B4
        go_wp2_with fail
        refine works_any _ |>.mono ?_
        rintro e V6 ⟨rfl, b⟩
        have B6 := Lib.hid (below_next B5.out b)
        go_wp2_with fail
        go_ret
        exact ⟨rfl, B6.out⟩
      · have d1 : decide (0 < K) = false := by have := NB.out; rw [decide_eq_false_iff_not]; omega
        have d2 : ¬ 0 < K := by have := NB.out; omega
        have F1 := fl_err (n := n) (by omega) 7 (by omega)
        have F2 := fl_err (n := n) (by omega) 3 (by omega)
        have MO := Lib.hid (fun v W h => most_any v (Gp.fl n n) 7 3 0 (fl_most (n := n) (by omega) (by have := NB.out; omega)) W h)
        have CO := Lib.hid (fun v W h => cover_any v (Gp.fl n n) 3 n (fl_cover (n := n) (by omega)) W h)
        rw [F1] at MO
        rw [F2] at CO
        have P1 := Lib.hid (fun v W h => most_any v [5, 5] 0 0 0 (mostO_not (by rw [w55]; decide)) W h)
        have P2 := Lib.hid (fun v W h => cover_any v [5, 5, 253402300800] 0 0 (coverO_not (by rw [w555]; decide)) W h)
        have P3 := Lib.hid (fun v W h => cover_any v [5, 6] 68719476737 0 (coverO_not (by rw [w56]; decide)) W h)
        have P4 := Lib.hid (fun v u W h h' => merge_any v u [6, 5] [-1] W h h')
        have P5 := Lib.hid (fun v W h => near_any v [5, 5] (-1) 0 14 near551 W h)
        have P6 := Lib.hid (fun v W h => cover_any v [0, 253402300799] 68719476736 2 c0m W h)
        rw [w55] at P1
        rw [w555] at P2
        rw [w56] at P3
        rw [err65] at P4
        rw [w0m] at P6
        clear F1 F2
        obtain ⟨l, hl⟩ : ∃ l, Gp.fl n n = l := ⟨_, rfl⟩
        rw [hl] at MO CO L0
        clear hl LN
        go_wp2_with fail
        refine (MO.out _ _ (L0.out.rowT N6)).mono ?_
        rintro e V1 ⟨rfl, b⟩
        have B1 := Lib.hid (below_next B0.out b)
        have L1 := Lib.hid (L0.out.below b)
        clear b
        clear L0 B0
        go_wp2_with fail
        refine (CO.out _ _ (L1.out.rowT N6)).mono ?_
        rintro e V2 ⟨rfl, b⟩
        have B2 := Lib.hid (below_next B1.out b)
        clear b
        clear L1 B1
        go_wp2_with fail
        refine (P1.out _ _ (RowT.lit V2 [5, 5] 2 rfl #[.int .i64 5, .int .i64 5] rfl (by decide))).mono ?_
        rintro e V3 ⟨rfl, b⟩
        have B3 := Lib.hid (below_next (below_new B2.out _) b)
        clear b
        clear B2
        go_wp2_with fail
        refine (P2.out _ _ (RowT.lit V3 [5, 5, 253402300800] 3 rfl #[.int .i64 5, .int .i64 5, .int .i64 253402300800] rfl (by decide))).mono ?_
        rintro e V4 ⟨rfl, b⟩
        have B4 := Lib.hid (below_next (below_new B3.out _) b)
        clear b
        clear B3
        go_wp2_with fail
        refine (P3.out _ _ (RowT.lit V4 [5, 6] 2 rfl #[.int .i64 5, .int .i64 6] rfl (by decide))).mono ?_
        rintro e V5 ⟨rfl, b⟩
        have B5 := Lib.hid (below_next (below_new B4.out _) b)
        clear b
        clear B4
        go_wp2_with fail
        have R6 := Lib.hid ((RowT.lit V5 [6, 5] 2 rfl #[.int .i64 6, .int .i64 5] rfl (by decide)).alloc (.cells #[.int .i64 (-1)] 2))
        have R7 := Lib.hid (RowT.lit (V5.alloc (.cells #[.int .i64 6, .int .i64 5] 2)) [-1] 1 rfl #[.int .i64 (-1)] rfl (by decide))
        rw [World.size_alloc] at R7
        refine (P4.out _ _ _ R6.out R7.out).mono ?_
        rintro e V6 ⟨u6, rfl, o6⟩
        have B6 := Lib.hid (below_next (below_new (below_new B5.out _) _) o6.below)
        clear o6
        clear B5
        go_wp2_with fail
        clear R6 R7
        refine (P5.out _ _ (RowT.lit V6 [5, 5] 2 rfl #[.int .i64 5, .int .i64 5] rfl (by decide))).mono ?_
        rintro e V7 ⟨rfl, b⟩
        have B7 := Lib.hid (below_next (below_new B6.out _) b)
        clear b
        clear B6
        go_wp2_with fail
        refine (P6.out _ _ (RowT.lit V7 [0, 253402300799] 2 rfl #[.int .i64 0, .int .i64 253402300799] rfl (by decide))).mono ?_
        rintro e V8 ⟨rfl, b⟩
        have B8 := Lib.hid (below_next (below_new B7.out _) b)
        clear b
        clear B7
        go_wp2_with fail
        refine works_any _ |>.mono ?_
        rintro e V9 ⟨rfl, b⟩
        have B9 := Lib.hid (below_next B8.out b)
        go_wp2_with fail
        go_ret
        exact ⟨rfl, B9.out⟩

theorem own : ownKnob Try.prog.godebug = none := by kernel_rfl
theorem laidOut : laidOutB Try.prog = true := by kernel_rfl

set_option maxRecDepth 100000 in
theorem lifted (os : Os) (started : os.Started) (H : Type) (enc : TypeId × Value → H) :
    ReturnsInHanded {} Try.checked os 13 .any (Rows.gapManySpec.pre6 enc Try.prog Try.f13 Rows.gapManyRow.domain false) (Rows.gapManySpec.post enc Try.prog Try.f13 false true false false) := by
  refine returnsInHanded_of_change (C := Try.checked) own started (by kernel_rfl) Try.func13
    (ChangeSpec.witness6 (enc := enc) (C := Try.checked) false ⟨#[], #[.int .u8 0], []⟩ 8 (by kernel_rfl) (by kernel_rfl) (by kernel_rfl) (by kernel_rfl)) ?_
  intro W base args ds gs before hval0 hW hcnd _
  have hval : ∀ (j : Nat) t v, Try.f13.params[j]? = some t → args[j]? = some v → Value.okWide Try.prog W .any base t v := hval0
  have hW' := hW
  obtain ⟨p, q, hA0, hV, rfl, hfz, hnd⟩ := hW
  have hA : DataW.TrodAll enc Try.prog W 0 (fun _ => true) true Try.f13.params.toList args.toList ds p := hA0
  rw [Try.params13] at hA hval
  obtain ⟨v0, vs0, d0, ds0, p0, q0, hargs, rfl, rfl, h0, r0⟩ := trodAll_cons hA
  obtain ⟨rfl, rfl, rfl⟩ := trodAll_nil r0
  obtain rfl : args = #[v0] := by cases args; simp_all
  obtain ⟨rfl, rfl⟩ := trodVars_none hV
  obtain ⟨a0, rfl, rfl, rfl, w0⟩ := open_int Try.underlying5 (hval 0 5 v0 rfl rfl) h0
  clear hA0 hval0
  refine (walk a0 W w0).mono fun e W' ⟨he, bel⟩ => ?_
  subst he
  exact ⟨_, rfl, _, _, _, [], _, [], hW', trodAll_mk1 (shut_bool Try.underlying4 _), (trodAll_cons_mk (shut_int Try.underlying5 w0) trodAll_mk0), rfl, bel.frame _, fun h => by cases h⟩

theorem proved : Rows.GapManySaid :=
  OpenClaim.holds_of_wide 13 Try.f13 rfl rfl rfl rfl rfl rfl rfl ⟨rfl, rfl, rfl, rfl, rfl⟩ rfl rfl rfl rfl rfl (by kernel_rfl) Try.func13 (by kernel_rfl)
    (of_decide_eq_true (by kernel_rfl)) (by unfold Func.isWrapper; first | (rw [if_pos (by decide +kernel)]; kernel_rfl) | (rw [if_neg (by decide +kernel)]; exact ⟨rfl, rfl⟩))
    (fun os started H enc _ => lifted os started H enc)

end Go.Proofs.Ytihbpbdcpnpiaaa.gapMany
