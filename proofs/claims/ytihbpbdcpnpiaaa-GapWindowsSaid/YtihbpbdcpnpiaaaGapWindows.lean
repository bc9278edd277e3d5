/- For all beginnings, slices of gaps, lengths and other windows, GapWindows returns true: the window at the time that Most returns has as many times as it says, none has more; the number of times is at most Most times Cover. No conditions. -/
import Derived.Test.YtihbpbdcpnpiaaaRows
import Derived.Test.YtihbpbdcpnpiaaaGapO
import Derived.OpenShut
import Derived.ChangeOld
namespace Go.Proofs.Ytihbpbdcpnpiaaa.gapWindows
open Go.ChangeShapes Go.WideShapes Go.ChangeAt Go.RowKit

set_option maxRecDepth 100000 in
set_option maxHeartbeats 8000000 in
theorem walk (f : Int) (a : Option Addr) (len cap : Nat) (zs : List Int) (g : Int) (oth : Int) (w : World) (hf : (Lit.int .u32 f).wf = true) (hr : IsRow .u16 w a len cap zs) (hg : (Lit.int .u16 g).wf = true) (ho : (Lit.int .u32 oth).wf = true) :
    Calls Try.prog 9 #[.int .u32 f, .slice a len cap, .int .u16 g, .int .u32 oth] w fun e w' => e = .returned (.bool true) ∧ Below w.heap.size w w' := by
  obtain ⟨f0, f1⟩ := u32_in hf
  obtain ⟨g0, g1⟩ := u16_in hg
  obtain ⟨o0, o1⟩ := u32_in ho
  have B0 : Hid (Below w.heap.size w w) := Lib.hid (Below.refl _ w)
  have MA := Lib.hid (made_any f a len cap zs w f0 f1 hr)
  have MD := md_is hr f0 f1
  clear hf hg ho hr
  obtain ⟨l, hl⟩ : ∃ l, Gp.md f zs (min len 300) = l := ⟨_, rfl⟩
  rw [hl] at MA MD
  clear hl
  have w1 : IntKind.i64.wrap g = g := by rw [IntKind.wrap_i64]; omega
  have w2 : IntKind.i64.wrap (g + 1) = g + 1 := by rw [IntKind.wrap_i64]; omega
  obtain ⟨wd, hwd⟩ : ∃ wd, g + 1 = wd := ⟨_, rfl⟩
  have HWD := Lib.hid hwd
  have EW := MD.errW (wd := wd) (by omega) (by omega)
  obtain ⟨n, x, hb⟩ : ∃ n x, Gp.best l wd l.length = (n, x) := ⟨_, _, rfl⟩
  have WI := Gp.wins MD.tl.inc (w := wd) (by omega) MD.pos hb
  have CM := Gp.cov_mul MD.tl (w := wd) (by omega) MD.pos hb
  have CLE := Gp.cov_le l wd l.length
  obtain ⟨c, hc⟩ : ∃ c, (Gp.cov l wd l.length).1 = c := ⟨_, rfl⟩
  rw [hc] at CM CLE
  have MO := Lib.hid (fun v W h => most_any v l wd n x (by unfold mostO; rw [if_pos EW, hb]) W h)
  have CO := Lib.hid (fun v W h => cover_any v l wd c (by unfold coverO; rw [if_pos EW, hc]) W h)
  rw [EW] at MO CO
  have INS := Lib.hid (fun (v : Value) (a : Int) (m : Nat) (hm : Gp.insTo l a wd l.length = m) (p0 : -1000000000000 ≤ a) (p1 : a ≤ 1000000000000) (W : World) (h : RowT W v l) => inside_any v l a wd m hm MD.tl.ok p0 p1 W h)
  have IH := Lib.hid (fun v W h => INS.out v x n WI.here (by have := MD.tl.ok _ WI.mem; unfold Gp.okT at this; omega) (by have := MD.tl.ok _ WI.mem; unfold Gp.okT at this; omega) W h)
  have CT := Lib.hid (fun v W h => contains_any v l x true ⟨fun _ => WI.mem, fun _ => rfl⟩ W h)
  have NO := Lib.hid WI.no
  have FI := Lib.hid WI.first
  have OK := Lib.hid MD.tl.ok
  have np := WI.pos
  have nl := WI.le
  obtain ⟨cp, cm⟩ := CM
  have ll := MD.len
  have lp := MD.pos
  have t1 : decide ((n : Int) < 1) = false := by rw [decide_eq_false_iff_not]; omega
  have t2 : decide ((l.length : Int) < (n : Int)) = false := by rw [decide_eq_false_iff_not]; omega
  have t2' : decide (l.length < n) = false := by rw [decide_eq_false_iff_not]; omega
  have t3 : decide ((c : Int) < 1) = false := by rw [decide_eq_false_iff_not]; omega
  have t4 : decide ((l.length : Int) < (c : Int)) = false := by rw [decide_eq_false_iff_not]; omega
  have t4' : decide (l.length < c) = false := by rw [decide_eq_false_iff_not]; omega
  have nc : n * c ≤ 301 * 301 := Nat.mul_le_mul (by omega) (by omega)
  obtain ⟨p, hp⟩ : ∃ p, n * c = p := ⟨_, rfl⟩
  rw [hp] at cm nc
  have hp' : (n : Int) * (c : Int) = (p : Int) := by rw [← hp]; simp
  have wp : IntKind.i64.wrap (p : Int) = (p : Int) := by rw [IntKind.wrap_i64]; omega
  have wp' : IntKind.i64.wrap ((n : Int) * (c : Int)) = (p : Int) := by rw [hp', wp]
  have t5 : decide ((p : Int) < (l.length : Int)) = false := by rw [decide_eq_false_iff_not]; omega
  have t5' : decide (p < l.length) = false := by rw [decide_eq_false_iff_not]; omega
  have nn : ((n : Int) != (n : Int)) = false := by simp
  obtain ⟨near, hnear⟩ : ∃ z, f + oth % 70000 - 35000 = z := ⟨_, rfl⟩
  have m0 : oth % 70000 = oth.tmod 70000 := (Int.tmod_eq_emod_of_nonneg o0).symm
  have n0 : 0 ≤ oth % 70000 ∧ oth % 70000 < 70000 := by omega
  obtain ⟨md, hmd⟩ : ∃ z, oth % 70000 = z := ⟨_, rfl⟩
  rw [hmd] at n0 hnear m0
  have v1 : IntKind.i64.wrap f = f := by rw [IntKind.wrap_i64]; omega
  have v2 : IntKind.i64.wrap md = md := by rw [IntKind.wrap_i64]; omega
  have v3 : IntKind.i64.wrap (f + md) = f + md := by rw [IntKind.wrap_i64]; omega
  have v4 : IntKind.i64.wrap (f + md - 35000) = near := by rw [IntKind.wrap_i64]; omega
  have v5 : IntKind.i64.wrap oth = oth := by rw [IntKind.wrap_i64]; omega
  have v6 : oth.tmod 70000 = md := m0.symm
  have v7 : IntKind.u32.wrap md = md := by rw [IntKind.wrap_u32]; omega
  obtain ⟨i1, hi1⟩ : ∃ i, Gp.insTo l near wd l.length = i := ⟨_, rfl⟩
  obtain ⟨i2, hi2⟩ : ∃ i, Gp.insTo l oth wd l.length = i := ⟨_, rfl⟩
  have I1 := Lib.hid (fun v W h => INS.out v near i1 hi1 (by omega) (by omega) W h)
  have I2 := Lib.hid (fun v W h => INS.out v oth i2 hi2 (by omega) (by omega) W h)
  have l1 : i1 ≤ n := by rw [← hi1]; exact NO.out near
  have l2 : i2 ≤ n := by rw [← hi2]; exact NO.out oth
  have s1 : decide ((i1 : Int) ≤ (n : Int)) = true := by rw [decide_eq_true_iff]; omega
  have s2 : decide ((i2 : Int) ≤ (n : Int)) = true := by rw [decide_eq_true_iff]; omega
  have s1' : decide (i1 ≤ n) = true := decide_eq_true l1
  have s2' : decide (i2 ≤ n) = true := decide_eq_true l2
  have LN : Hid (l.length ≤ 1000000) := Lib.hid (by omega)
  clear EW WI MD hb hc hp hnear hmd hi1 hi2 CLE cp cm nc np nl m0
  go_enter Try.func9, Try.ntmps9
  go_wp2_with fail
  refine (MA.out).mono ?_
  rintro e V1 ⟨u1, rfl, o1⟩
  have B1 := Lib.hid (below_next B0.out o1.below)
  have L1 := Lib.hid (o1.rowT LN.out)
  obtain ⟨a_1, c_1, rfl⟩ := o1.len
  clear o1
  clear B0
  go_wp2_with fail
  try rw [hwd]
  refine (MO.out _ _ L1.out).mono ?_
  rintro e V2 ⟨rfl, b⟩
  have B2 := Lib.hid (below_next B1.out b)
  have L2 := Lib.hid (L1.out.below b)
  clear b
  clear L1 B1
  go_wp2_with fail
  refine (CO.out _ _ L2.out).mono ?_
  rintro e V3 ⟨rfl, b⟩
  have B3 := Lib.hid (below_next B2.out b)
  have L3 := Lib.hid (L2.out.below b)
  clear b
  clear L2 B2
  go_wp2_with (first | (go_at_call 37; refine (IH.out _ _ L3.out).mono ?_; rintro e w' ⟨rfl, rfl⟩) | (go_at_call 38; refine (CT.out _ _ L3.out).mono ?_; rintro e w' ⟨rfl, rfl⟩))
  obtain ⟨_, A1, k1, e1, cells⟩ := L3.out
  cases e1
  have CC := Lib.hid cells
  clear cells
  go_loop [89] (fun iv => ∃ k : Nat, k ≤ l.length ∧ iv = .int .i64 k) (fun iv => l.length - (intOf iv).toNat)
  case atStart => exact ⟨0, by omega, rfl⟩
  case round =>
    obtain ⟨k, hk, rfl⟩ := hrel
    by_cases lt : k < l.length
    · have e0 : decide ((k : Int) < (l.length : Int)) = true := by rw [decide_eq_true_iff]; omega
      have wi : IntKind.i64.wrap ((k : Int) + 1) = (k : Int) + 1 := by rw [IntKind.wrap_i64]; omega
      obtain ⟨b3, o3, e3, x3⟩ := CC.out k lt
      cases e3
      have zm := Gp.getD_mem lt
      have zo := OK.out _ zm
      have LE := NO.out (l.getD k 0)
      have LT := FI.out (l.getD k 0) zm
      obtain ⟨z, hz⟩ : ∃ z, l.getD k 0 = z := ⟨_, rfl⟩
      rw [hz] at x3 zo LE LT
      unfold Gp.okT at zo
      obtain ⟨i, hi⟩ : ∃ i, Gp.insTo l z wd l.length = i := ⟨_, rfl⟩
      have IK := Lib.hid (fun v W h => INS.out v z i hi (by omega) (by omega) W h)
      rw [hi] at LE LT
      have q1 : decide ((n : Int) < (i : Int)) = false := by rw [decide_eq_false_iff_not]; omega
      have q1' : decide (n < i) = false := by rw [decide_eq_false_iff_not]; omega
      clear hz hi zm zo
      by_cases q : i = n
      · have q2 : decide (z < x) = false := by rw [decide_eq_false_iff_not]; intro r; have := LT r; omega
        subst q
        have q3 : ((i : Int) == (i : Int)) = true := by simp
        clear LE LT
        go_wp2_with (go_at_call 37; refine (IK.out _ _ L3.out).mono ?_; rintro e w' ⟨rfl, rfl⟩)
        go_round
        case rel => exact ⟨k + 1, by omega, by go_num⟩
        case measure => simp [intOf]; omega
      · have q3 : ((i : Int) == (n : Int)) = false := by rw [beq_eq_false_iff_ne]; omega
        have q3' : (i == n) = false := by rw [beq_eq_false_iff_ne]; exact q
        clear LE LT q
        go_wp2_with (go_at_call 37; refine (IK.out _ _ L3.out).mono ?_; rintro e w' ⟨rfl, rfl⟩)
        go_round
        case rel => exact ⟨k + 1, by omega, by go_num⟩
        case measure => simp [intOf]; omega
    · have e0 : decide ((k : Int) < (l.length : Int)) = false := by rw [decide_eq_false_iff_not]; omega
      go_wp2_with fail
      refine (I1.out _ _ L3.out).mono ?_
      rintro e w' ⟨rfl, rfl⟩
      go_wp2_with fail
      refine (I2.out _ _ L3.out).mono ?_
      rintro e w' ⟨rfl, rfl⟩
      go_wp2_with fail
      refine (works_any _).mono ?_
      rintro e W9 ⟨rfl, b⟩
      have B9 := Lib.hid (below_next B3.out b)
      clear b
      go_wp2_with fail
      go_ret
      exact ⟨rfl, B9.out⟩

theorem own : ownKnob Try.prog.godebug = none := by kernel_rfl
theorem laidOut : laidOutB Try.prog = true := by kernel_rfl

set_option maxRecDepth 100000 in
theorem lifted (os : Os) (started : os.Started) (H : Type) (enc : TypeId × Value → H) :
    ReturnsInHanded {} Try.checked os 9 .any (Rows.gapWindowsSpec.pre6 enc Try.prog Try.f9 Rows.gapWindowsRow.domain false) (Rows.gapWindowsSpec.post enc Try.prog Try.f9 false true false false) := by
  refine returnsInHanded_of_change (C := Try.checked) own started (by kernel_rfl) Try.func9
    (ChangeSpec.witness6 (enc := enc) (C := Try.checked) false ⟨#[], #[.int .u32 0, .slice none 0 0, .int .u16 0, .int .u32 0], []⟩ 8 (by kernel_rfl) (by kernel_rfl) (by kernel_rfl) (by kernel_rfl)) ?_
  intro W base args ds gs before hval0 hW hcnd _
  have hval : ∀ (j : Nat) t v, Try.f9.params[j]? = some t → args[j]? = some v → Value.okWide Try.prog W .any base t v := hval0
  have hW' := hW
  obtain ⟨p, q, hA0, hV, rfl, hfz, hnd⟩ := hW
  have hA : DataW.TrodAll enc Try.prog W 0 (fun _ => true) true Try.f9.params.toList args.toList ds p := hA0
  rw [Try.params9] at hA hval
  obtain ⟨v0, vs0, d0, ds0, p0, q0, hargs, rfl, rfl, h0, r0⟩ := trodAll_cons hA
  obtain ⟨v1, vs1, d1, ds1, p1, q1, rfl, rfl, rfl, h1, r1⟩ := trodAll_cons r0
  obtain ⟨v2, vs2, d2, ds2, p2, q2, rfl, rfl, rfl, h2, r2⟩ := trodAll_cons r1
  obtain ⟨v3, vs3, d3, ds3, p3, q3, rfl, rfl, rfl, h3, r3⟩ := trodAll_cons r2
  obtain ⟨rfl, rfl, rfl⟩ := trodAll_nil r3
  obtain rfl : args = #[v0, v1, v2, v3] := by cases args; simp_all
  obtain ⟨rfl, rfl⟩ := trodVars_none hV
  obtain ⟨a0, rfl, rfl, rfl, w0⟩ := open_int Try.underlying41 (hval 0 41 v0 rfl rfl) h0
  obtain ⟨a1, len1, cap1, rfl⟩ := okWide_slice Try.underlying42 (hval 1 42 v1 rfl rfl)
  have k1 := h1
  have lt1 : ∀ x ∈ p1, x.block < W.heap.size := by obtain ⟨m, hm⟩ := k1; exact DataW.trod_lt m _ _ _ hm
  obtain ⟨z1, w1⟩ : ∃ zs, IsRow .u16 W a1 len1 cap1 zs := by
    obtain ⟨fuel, hf⟩ := h1
    rcases open_ints Try.underlying42 Try.underlying44 (by kernel_rfl) hf with ⟨hcs, _⟩ | ⟨x, l, c, zs, hcs, _, hl, hm, hz, _, hcell, hwz⟩
    · simp [Value.cells] at hcs
      obtain ⟨rfl, rfl, rfl⟩ := hcs
      exact ⟨[], .inl ⟨rfl, rfl, rfl, rfl⟩⟩
    · simp [Value.cells] at hcs
      obtain ⟨rfl, rfl, rfl⟩ := hcs
      exact ⟨zs, .inr ⟨_, rfl, hl, hm, by simpa using hz, hcell, hwz⟩⟩
  obtain ⟨a2, rfl, rfl, rfl, w2⟩ := open_int Try.underlying44 (hval 2 44 v2 rfl rfl) h2
  obtain ⟨a3, rfl, rfl, rfl, w3⟩ := open_int Try.underlying41 (hval 3 41 v3 rfl rfl) h3
  clear hA0 hval0
  refine (walk a0 a1 len1 cap1 z1 a2 a3 W w0 w1 w2 w3).mono fun e W' ⟨he, bel⟩ => ?_
  subst he
  exact ⟨_, rfl, _, _, _, [], _, [], hW', trodAll_mk1 (shut_bool Try.underlying4 _), (trodAll_cons_mk (shut_int Try.underlying41 w0) (trodAll_cons_mk (Below.trod laidOut (by kernel_rfl) (of_decide_eq_true (by kernel_rfl)) k1 bel lt1) (trodAll_cons_mk (shut_int Try.underlying44 w2) (trodAll_cons_mk (shut_int Try.underlying41 w3) trodAll_mk0)))), rfl, bel.frame _, fun h => by cases h⟩

theorem proved : Rows.GapWindowsSaid :=
  OpenClaim.holds_of_wide 9 Try.f9 rfl rfl rfl rfl rfl rfl rfl ⟨rfl, rfl, rfl, rfl, rfl⟩ rfl rfl rfl rfl rfl (by kernel_rfl) Try.func9 (by kernel_rfl)
    (of_decide_eq_true (by kernel_rfl)) (by unfold Func.isWrapper; first | (rw [if_pos (by decide +kernel)]; kernel_rfl) | (rw [if_neg (by decide +kernel)]; exact ⟨rfl, rfl⟩))
    (fun os started H enc _ => lifted os started H enc)

end Go.Proofs.Ytihbpbdcpnpiaaa.gapWindows
