/- For all uint64 sets s and uint8 numbers from and size, BitsTurns returns true: around a circle the number that is met first is in the set, and none is passed over. Condition: the table of math/bits starts as the program's text lays it (tied). -/
import Derived.Test.YteabmnaepmkkaaaDoorBitLaid
import Derived.Test.YteabmnaepmkkaaaDoorBitU
namespace Go.Proofs.YteabmnaepmkkaaaDoor.bitsTurns
open Go.ChangeShapes Go.WideShapes Go.ChangeAt Go.RowKit

set_option maxRecDepth 100000 in
set_option maxHeartbeats 2000000 in
theorem walk (s fr sz : Int) (w : World) (L : Lay w) (hs : (Lit.int .u64 s).wf = true) (hf : (Lit.int .u8 fr).wf = true) (hz : (Lit.int .u8 sz).wf = true) :
    Calls Tryd.prog 10 #[.int .u64 s, .int .u8 fr, .int .u8 sz] w fun e w' => e = .returned (.bool true) ∧ Below w.heap.size w w' := by
  obtain ⟨S, rfl, hS⟩ := nat_u64 hs
  obtain ⟨f, rfl, f256⟩ := nat_u8 hf
  obtain ⟨z, rfl, z256⟩ := nat_u8 hz
  obtain ⟨n, hn⟩ : ∃ n : Nat, n = 1 + z % 64 := ⟨_, rfl⟩
  obtain ⟨t, ht⟩ : ∃ t : Nat, t = f % n := ⟨_, rfl⟩
  have n1 : 1 ≤ n := by omega
  have n64 : n ≤ 64 := by omega
  have tn : t < n := by rw [ht]; exact Nat.mod_lt _ (by omega)
  have e1 : (1 : Int) + (z : Int) % 64 = (n : Int) := by omega
  have e2 : (f : Int) % (n : Int) = (t : Int) := by rw [ht]; simp
  have HS := Lib.hid (fun (x : Nat) w => has_any S x w hS)
  have HN := Lib.hid (fun x => has_nat hS x)
  have TU := Lib.hid (fun a m b w L h => turn_any S t n a m b w L hS h)
  have TR := Lib.hid (trn_ex S tn)
  clear hs hf hz hn ht
  go_enter Tryd.func10, Tryd.ntmps10
  go_wp2_with fail
  rw [e2]
  rcases TR.out with h | ⟨x, k, h⟩
  · have T := Lib.hid (fun w L => TU.out 0 0 false w L (.inr ⟨t, n, rfl, rfl, n64, tn, .inl ⟨h, rfl, rfl, rfl⟩⟩))
    rcases nxt_ex 0 hS with q | ⟨r, q⟩
    · have N := Lib.hid (fun w L => next_any S 0 0 false w L hS (by omega) (.inl ⟨q, rfl, rfl⟩))
      clear h q
      refine (T.out _ L).mono ?_
      rintro e w' ⟨rfl, rfl⟩
      go_wp2_with fail
      refine (N.out _ L).mono ?_
      rintro e w' ⟨rfl, rfl⟩
      go_wp2_with fail
      refine (works_any _ L).mono ?_
      rintro e w1 ⟨rfl, hb⟩
      go_wp2_with fail
      go_ret
      exact ⟨rfl, hb⟩
    · have N := Lib.hid (fun w L => next_any S 0 r true w L hS (by omega) (.inr ⟨r, q, rfl, rfl⟩))
      have nr : n ≤ r := by
        rcases Nat.lt_or_ge r n with c | c
        · have := h r c; rw [q.has] at this; cases this
        · exact c
      have d1 : decide (n ≤ r) = true := by simpa using nr
      have d2 : decide ((n : Int) ≤ r) = true := by simp; omega
      clear h q
      refine (T.out _ L).mono ?_
      rintro e w' ⟨rfl, rfl⟩
      go_wp2_with fail
      refine (N.out _ L).mono ?_
      rintro e w' ⟨rfl, rfl⟩
      go_wp2_with fail
      refine (works_any _ L).mono ?_
      rintro e w1 ⟨rfl, hb⟩
      go_wp2_with fail
      go_ret
      exact ⟨rfl, hb⟩
  · have T := Lib.hid (fun w L => TU.out x k true w L (.inr ⟨t, n, rfl, rfl, n64, tn, .inr ⟨x, k, h, rfl, rfl, rfl⟩⟩))
    have kn := h.lt
    have d1 : decide ((n : Int) ≤ k) = false := by simp; omega
    have d2 : decide (n ≤ k) = false := by simp; omega
    have d3 : decide ((k : Int) < 0) = false := by simp
    have e3 : ((x : Int) != ((t : Int) + k) % n) = false := by
      rw [bne_eq_false_iff_eq, ← h.at_]; simp
    have HX := Lib.hid (fun w => HS.out x w)
    rw [HN.out, h.has] at HX
    have E := Lib.hid (fun (j : Nat) (hj : j < k) => show hasB S (((t : Int) + j) % n) = false by
      rw [show ((t : Int) + j) % n = ((t + j) % n : Nat) by simp, has_nat hS]; exact h.first j hj)
    have HI := Lib.hid (fun (v : Int) w => has_any S v w hS)
    clear h
    refine (T.out _ L).mono ?_
    rintro e w' ⟨rfl, rfl⟩
    go_wp2_with fail
    refine (HX.out _).mono ?_
    rintro e w' ⟨rfl, rfl⟩
    go_wp2_with fail
    go_loop [14] (fun i => ∃ j : Nat, j ≤ k ∧ i = .int .i64 j) (fun i => k - (intOf i).toNat)
    case atStart => exact ⟨0, by omega, rfl⟩
    case round =>
      obtain ⟨j, hj, rfl⟩ := hrel
      by_cases c : j < k
      · have e4 := E.out j c
        have c1 : decide (j < k) = true := by simpa using c
        have c2 : decide ((j : Int) < k) = true := by simp; omega
        go_wp2_with fail
        refine (HI.out _ _).mono ?_
        rw [e4]
        rintro e w' ⟨rfl, rfl⟩
        go_wp2_with fail
        go_round
        case rel => exact ⟨j + 1, by omega, by go_num⟩
        case measure => simp [intOf]; omega
      · obtain rfl : j = k := by omega
        go_wp2_with fail
        refine (works_any _ L).mono ?_
        rintro e w1 ⟨rfl, hb⟩
        go_wp2_with fail
        go_ret
        exact ⟨rfl, hb⟩

theorem listed : Rows.bitsTurnsRow.laid.find? isTab = some (((Rows.bitsTurnsRow.laid.find? isTab).map (·.1)).getD "", Rows.laid_math_bits_deBruijn64tab) := by kernel_rfl

set_option maxRecDepth 100000 in
theorem lifted (os : Os) (started : os.Started) (H : Type) (enc : TypeId × Value → H) :
    ReturnsInHanded {} Tryd.checked os 10 .any (fun w args => (Rows.bitsTurnsSpec.pre enc Tryd.prog Tryd.f10 [] false w args ∧ laidMetH Tryd.prog Rows.bitsTurnsRow.laid w) ∧ sizedMet enc Tryd.prog Tryd.f10 (OpenSpec.ofChange Rows.bitsTurnsSpec) false w args)
      (Rows.bitsTurnsSpec.post enc Tryd.prog Tryd.f10 false true false false) := by
  refine returnsInHanded_of_change_and (C := Tryd.checked) (X := fun w _ => laidMetH Tryd.prog Rows.bitsTurnsRow.laid w) (fun _ _ _ hh h => h.of_heap hh) own started (by kernel_rfl) Tryd.func10
    (ChangeSpec.witness_shaped (enc := enc) (C := Tryd.checked) (os := os) (X := fun w _ => laidMetH Tryd.prog Rows.bitsTurnsRow.laid w) false (World.doorLaid Tryd.prog 400 os) #[.int .u64 0, .int .u8 0, .int .u8 0] 8 rfl (shaped0 os _) (by kernel_rfl) (by kernel_rfl) (by kernel_rfl) (door_met os _)) ?_
  intro W base args ds gs before hval0 hW _ _ hL _
  have hval : ∀ (j : Nat) t v, Tryd.f10.params[j]? = some t → args[j]? = some v → Value.okWide Tryd.prog W .any base t v := hval0
  have hW' := hW
  obtain ⟨p, q, hA0, hV, rfl, hfz, hnd⟩ := hW
  have hA : DataW.TrodAll enc Tryd.prog W 0 (fun _ => true) true Tryd.f10.params.toList args.toList ds p := hA0
  rw [Tryd.params10] at hA hval
  obtain ⟨v0, vs0, d0, ds0, p0, q0, hargs, rfl, rfl, h0, r0⟩ := trodAll_cons hA
  obtain ⟨v1, vs1, d1, ds1, p1, q1, rfl, rfl, rfl, h1, r1⟩ := trodAll_cons r0
  obtain ⟨v2, vs2, d2, ds2, p2, q2, rfl, rfl, rfl, h2, r2⟩ := trodAll_cons r1
  obtain ⟨rfl, rfl, rfl⟩ := trodAll_nil r2
  obtain rfl : args = #[v0, v1, v2] := by cases args; simp_all
  obtain ⟨rfl, rfl⟩ := trodVars_none hV
  obtain ⟨a0, rfl, rfl, rfl, w0⟩ := open_int Tryd.underlying24 (hval 0 24 v0 rfl rfl) h0
  obtain ⟨a1, rfl, rfl, rfl, w1⟩ := open_int Tryd.underlying5 (hval 1 5 v1 rfl rfl) h1
  obtain ⟨a2, rfl, rfl, rfl, w2⟩ := open_int Tryd.underlying5 (hval 2 5 v2 rfl rfl) h2
  clear hA0 hval0
  refine (walk a0 a1 a2 W (lay_of _ W (by kernel_rfl) _ listed hL) w0 w1 w2).mono fun e W' ⟨he, bel⟩ => ?_
  subst he
  exact ⟨_, rfl, _, _, _, [], _, [], hW', trodAll_mk1 (shut_bool Tryd.underlying4 _), (trodAll_cons_mk (shut_int Tryd.underlying24 w0) (trodAll_cons_mk (shut_int Tryd.underlying5 w1) (trodAll_cons_mk (shut_int Tryd.underlying5 w2) trodAll_mk0))), rfl, bel.frame _, fun h => by cases h⟩

theorem row_holds : Rows.BitsTurnsSaid :=
  OpenClaim.holds_of_wide 10 Tryd.f10 rfl rfl rfl rfl rfl rfl rfl ⟨rfl, rfl, rfl, rfl, rfl⟩ rfl rfl rfl rfl rfl (by kernel_rfl) Tryd.func10 (by kernel_rfl)
    (of_decide_eq_true (by kernel_rfl)) (by unfold Func.isWrapper; first | (rw [if_pos (by decide +kernel)]; kernel_rfl) | (rw [if_neg (by decide +kernel)]; exact ⟨rfl, rfl⟩))
    (fun os started H enc _ => lifted os started H enc)

theorem proved : Rows.BitsTurnsCardSaid :=
  Claim7.holds_tied_plain_at .later [] Rows.bitsTurnsCard.laidKinds true Rows.bitsTurnsCard.stood.harness Rows.bitsTurnsCard.stood.looks
    row_holds (fun _ h => by cases h) (by kernel_rfl) (fun _ h => by cases h) bitsTurns_row_tie rfl ⟨rfl, rfl⟩ (by kernel_rfl) rfl
    (fun f fn hf hfn => by
      obtain rfl : f = 10 := Option.some.inj ((show Tryd.prog.funcNamed Rows.bitsTurnsRow.func = some 10 by kernel_rfl).symm.trans hf) |>.symm
      obtain rfl : fn = Tryd.f10 := (Option.some.inj (Tryd.func10.symm.trans hfn)).symm
      exact ⟨looks0, fun j t ht => by
        rw [Tryd.params10] at ht
        have hm : t ∈ [24, 5] := by simpa using Array.mem_of_getElem? ht
        have hall : ([24, 5].all fun u => !Tryd.prog.wantsStandIn u) = true := by kernel_rfl
        exact (show Tryd.prog.wantsStandIn t = false by simpa using List.all_eq_true.1 hall t hm)⟩)
    (by kernel_rfl)
end Go.Proofs.YteabmnaepmkkaaaDoor.bitsTurns
