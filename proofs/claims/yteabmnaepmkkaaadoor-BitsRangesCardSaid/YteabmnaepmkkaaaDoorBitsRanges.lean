/- For all uint8 numbers a, b and c, BitsRanges returns true: a range of at least three numbers, or with the step 1, has one run, and this step. Condition: the table of math/bits starts as the program's text lays it (tied). -/
import Derived.Test.YteabmnaepmkkaaaDoorBitLaid
import Derived.Test.YteabmnaepmkkaaaDoorBitU
namespace Go.Proofs.YteabmnaepmkkaaaDoor.bitsRanges
open Go.ChangeShapes Go.WideShapes Go.ChangeAt Go.RowKit

set_option maxRecDepth 100000 in
set_option maxHeartbeats 4000000 in
theorem walk (ai bi ci : Int) (w : World) (L : Lay w) (ha : (Lit.int .u8 ai).wf = true) (hb : (Lit.int .u8 bi).wf = true) (hc : (Lit.int .u8 ci).wf = true) :
    Calls Tryd.prog 8 #[.int .u8 ai, .int .u8 bi, .int .u8 ci] w fun e w' => e = .returned (.bool true) ∧ Below w.heap.size w w' := by
  obtain ⟨a, rfl, a256⟩ := nat_u8 ha
  obtain ⟨b, rfl, b256⟩ := nat_u8 hb
  obtain ⟨c, rfl, c256⟩ := nat_u8 hc
  clear ha hb hc
  obtain ⟨t, ht⟩ : ∃ t : Nat, t = 1 + c % 31 := ⟨_, rfl⟩
  have t1 : 1 ≤ t := by omega
  have t31 : t ≤ 31 := by omega
  have y1 : (1 : Int) + (c : Int) % 31 = (t : Int) := by omega
  clear ht
  by_cases sw : b % 64 < a % 64
  · obtain ⟨l, hl⟩ : ∃ l : Nat, l = b % 64 := ⟨_, rfl⟩
    obtain ⟨h, hh⟩ : ∃ h : Nat, h = a % 64 := ⟨_, rfl⟩
    have lh : l ≤ h := by omega
    have h64 : h < 64 := by omega
    have x1 : (b : Int) % 64 = (l : Int) := by omega
    have x2 : (a : Int) % 64 = (h : Int) := by omega
    have sw1 : decide ((l : Int) < h) = true := by simp; omega
    have sw2 : decide (l < h) = true := by simp; omega
    obtain ⟨R, hR⟩ : ∃ R, Bit.rangeS l h t = R := ⟨_, rfl⟩
    have RA := Lib.hid (fun w => range_any (l : Int) h t R 0 w (.inr (.inr ⟨l, h, t, rfl, rfl, rfl, lh, h64, t1, hR.symm, rfl⟩)))
    have rl := Bit.rangeS_lt lh t1 h64
    have rm := Bit.rangeS_mem lh t1 h64
    rw [hR] at rl rm
    obtain ⟨D, hD⟩ : ∃ D, D = (h - l) / t := ⟨_, rfl⟩
    rw [← hD] at rm
    have DM : D * t ≤ h - l := by rw [hD]; exact Nat.div_mul_le_self _ _
    have D64 : D < 64 := by have := Nat.div_le_self (h - l) t; omega
    have CO := Lib.hid (fun w => count_any R rl w)
    have RU := Lib.hid (fun w L => runs_any R rl w L)
    simp only [rm, Bit.nums_len] at CO
    simp only [rm] at RU
    have q1 : ((h : Int) - l) / t = (D : Int) := by rw [hD, show (h : Int) - l = ((h - l : Nat) : Int) by omega]; simp
    have q2 : ((h : Int) - l).tdiv t = (D : Int) := by rw [Int.tdiv_eq_ediv_of_nonneg (by omega)]; exact q1
    obtain ⟨P, hP⟩ : ∃ P, P = D * t := ⟨_, rfl⟩
    have q3 : (D : Int) * t = (P : Int) := by rw [hP]; simp
    rw [← hP] at DM
    have dn : decide ((h : Int) < l) = false := by simp; omega
    have dn' : decide (h < l) = false := by simp; omega
    obtain ⟨m, hm⟩ : ∃ m : Nat, m = D + 1 := ⟨_, rfl⟩
    have q4 : (D : Int) + 1 = (m : Int) := by omega
    rw [← hm] at CO
    by_cases big : t = 1 ∨ 2 ≤ D
    · have ru : Bit.runs (Bit.nums l t (D + 1)) = [(l, l + P, t)] := by
        by_cases d0 : D = 0
        · have t1' : t = 1 := by omega
          rw [hP, d0, t1', Bit.runs_one]; simp
        · obtain ⟨k, rfl⟩ : ∃ k, D = k + 1 := ⟨D - 1, by omega⟩
          rw [Bit.runs_many l t k t1 (by omega), hP]
      simp only [ru] at RU
      have s3 := same3_t (l : Int) ((l : Int) + P) t
      have LB := Lib.hid L
      have g0 : (t = 1 ∨ t ≠ 1 ∧ 2 ≤ D) := by omega
      clear ru rm big hD hR hl hh hP hm
      rcases g0 with t1e | ⟨t1n, D2⟩
      · have e1 : ((t : Int) == 1) = true := by rw [beq_iff_eq]; omega
        clear t1e
        go_enter Tryd.func8, Tryd.ntmps8
        go_wp2_with fail
        refine (RA.out _).mono ?_
        rintro e w' ⟨rfl, rfl⟩
        go_wp2_with fail
        go_quiet (first | (go_at_call 28; exact Calls.quiet_of_same ((CO.out _).mono fun _ _ ⟨h1, h2⟩ => ⟨h1, h2.symm⟩)))
        go_wp2_with fail
        refine (RU.out _ (LB.out.below (below_drewN (Below.refl _ _) _))).mono ?_
        rintro e w1 ⟨v, rfl, ho⟩
        have HO := Lib.hid ho
        obtain ⟨g, cap, rfl⟩ : ∃ g cap, v = .slice (some ⟨g, 0, none⟩) 1 cap := by
          rcases ho.row.2 with ⟨_, h0⟩ | ⟨g, cap, _, rfl, _⟩
          · cases h0
          · exact ⟨g, cap, rfl⟩
        obtain ⟨c1, c2, c3⟩ := cells3_own ho.row 0 (by simp)
        simp at c1 c2 c3
        have LW := Lib.hid (LB.out.below (below_drewN (Below.refl _ _) _ |>.trans (ho.below.mono (Nat.le_refl _))))
        clear ho
        go_wp2_with fail
        refine (works_any _ LW.out).mono ?_
        rintro e w2 ⟨rfl, hb2⟩
        go_wp2_with fail
        go_ret
        exact ⟨rfl, (below_drewN (Below.refl _ _) _).trans (HO.out.below.trans (hb2.mono HO.out.below.size))⟩
      · have e1 : ((t : Int) == 1) = false := by rw [beq_eq_false_iff_ne]; omega
        have e2 : decide (2 ≤ (D : Int)) = true := by simp; omega
        have e3 : decide (2 ≤ D) = true := by simpa using D2
        clear t1n
        go_enter Tryd.func8, Tryd.ntmps8
        go_wp2_with fail
        refine (RA.out _).mono ?_
        rintro e w' ⟨rfl, rfl⟩
        go_wp2_with fail
        go_quiet (first | (go_at_call 28; exact Calls.quiet_of_same ((CO.out _).mono fun _ _ ⟨h1, h2⟩ => ⟨h1, h2.symm⟩)))
        go_wp2_with fail
        refine (RU.out _ (LB.out.below (below_drewN (Below.refl _ _) _))).mono ?_
        rintro e w1 ⟨v, rfl, ho⟩
        have HO := Lib.hid ho
        obtain ⟨g, cap, rfl⟩ : ∃ g cap, v = .slice (some ⟨g, 0, none⟩) 1 cap := by
          rcases ho.row.2 with ⟨_, h0⟩ | ⟨g, cap, _, rfl, _⟩
          · cases h0
          · exact ⟨g, cap, rfl⟩
        obtain ⟨c1, c2, c3⟩ := cells3_own ho.row 0 (by simp)
        simp at c1 c2 c3
        have LW := Lib.hid (LB.out.below (below_drewN (Below.refl _ _) _ |>.trans (ho.below.mono (Nat.le_refl _))))
        clear ho
        go_wp2_with fail
        refine (works_any _ LW.out).mono ?_
        rintro e w2 ⟨rfl, hb2⟩
        go_wp2_with fail
        go_ret
        exact ⟨rfl, (below_drewN (Below.refl _ _) _).trans (HO.out.below.trans (hb2.mono HO.out.below.size))⟩
    · have ru : (Bit.runs (Bit.nums l t (D + 1))).length = m := by
        have : D = 0 ∨ D = 1 := by omega
        rcases this with e | e
        · rw [hm, e, Bit.runs_one]; rfl
        · rw [hm, e, Bit.runs_two l t (by omega)]; rfl
      obtain ⟨rs, hrs⟩ : ∃ rs, Bit.runs (Bit.nums l t (D + 1)) = rs := ⟨_, rfl⟩
      simp only [hrs] at RU
      rw [hrs] at ru
      have LB := Lib.hid L
      have e1 : ((t : Int) == 1) = false := by rw [beq_eq_false_iff_ne]; omega
      have e2 : decide (2 ≤ (D : Int)) = false := by simp; omega
      have e3 : decide (2 ≤ D) = false := by simp; omega
      clear rm big hD hR hrs hl hh hP hm
      go_enter Tryd.func8, Tryd.ntmps8
      go_wp2_with fail
      refine (RA.out _).mono ?_
      rintro e w' ⟨rfl, rfl⟩
      go_wp2_with fail
      go_quiet (first | (go_at_call 28; exact Calls.quiet_of_same ((CO.out _).mono fun _ _ ⟨h1, h2⟩ => ⟨h1, h2.symm⟩)))
      go_wp2_with fail
      refine (RU.out _ (LB.out.below (below_drewN (Below.refl _ _) _))).mono ?_
      rintro e w1 ⟨v, rfl, ho⟩
      have HO := Lib.hid ho
      obtain ⟨ad, cap, rfl⟩ : ∃ ad cap, v = .slice ad m cap := by
        rcases ho.row.2 with ⟨rfl, h0⟩ | ⟨g, cap, _, rfl, _⟩
        · rw [ru] at h0; rw [h0]; exact ⟨_, _, rfl⟩
        · rw [ru]; exact ⟨_, _, rfl⟩
      have LW := Lib.hid (LB.out.below (below_drewN (Below.refl _ _) _ |>.trans (ho.below.mono (Nat.le_refl _))))
      clear ho
      go_wp2_with fail
      refine (works_any _ LW.out).mono ?_
      rintro e w2 ⟨rfl, hb2⟩
      go_wp2_with fail
      go_ret
      exact ⟨rfl, (below_drewN (Below.refl _ _) _).trans (HO.out.below.trans (hb2.mono HO.out.below.size))⟩
  · obtain ⟨l, hl⟩ : ∃ l : Nat, l = a % 64 := ⟨_, rfl⟩
    obtain ⟨h, hh⟩ : ∃ h : Nat, h = b % 64 := ⟨_, rfl⟩
    have lh : l ≤ h := by omega
    have h64 : h < 64 := by omega
    have x1 : (a : Int) % 64 = (l : Int) := by omega
    have x2 : (b : Int) % 64 = (h : Int) := by omega
    obtain ⟨R, hR⟩ : ∃ R, Bit.rangeS l h t = R := ⟨_, rfl⟩
    have RA := Lib.hid (fun w => range_any (l : Int) h t R 0 w (.inr (.inr ⟨l, h, t, rfl, rfl, rfl, lh, h64, t1, hR.symm, rfl⟩)))
    have rl := Bit.rangeS_lt lh t1 h64
    have rm := Bit.rangeS_mem lh t1 h64
    rw [hR] at rl rm
    obtain ⟨D, hD⟩ : ∃ D, D = (h - l) / t := ⟨_, rfl⟩
    rw [← hD] at rm
    have DM : D * t ≤ h - l := by rw [hD]; exact Nat.div_mul_le_self _ _
    have D64 : D < 64 := by have := Nat.div_le_self (h - l) t; omega
    have CO := Lib.hid (fun w => count_any R rl w)
    have RU := Lib.hid (fun w L => runs_any R rl w L)
    simp only [rm, Bit.nums_len] at CO
    simp only [rm] at RU
    have q1 : ((h : Int) - l) / t = (D : Int) := by rw [hD, show (h : Int) - l = ((h - l : Nat) : Int) by omega]; simp
    have q2 : ((h : Int) - l).tdiv t = (D : Int) := by rw [Int.tdiv_eq_ediv_of_nonneg (by omega)]; exact q1
    obtain ⟨P, hP⟩ : ∃ P, P = D * t := ⟨_, rfl⟩
    have q3 : (D : Int) * t = (P : Int) := by rw [hP]; simp
    rw [← hP] at DM
    have dn : decide ((h : Int) < l) = false := by simp; omega
    have dn' : decide (h < l) = false := by simp; omega
    obtain ⟨m, hm⟩ : ∃ m : Nat, m = D + 1 := ⟨_, rfl⟩
    have q4 : (D : Int) + 1 = (m : Int) := by omega
    rw [← hm] at CO
    by_cases big : t = 1 ∨ 2 ≤ D
    · have ru : Bit.runs (Bit.nums l t (D + 1)) = [(l, l + P, t)] := by
        by_cases d0 : D = 0
        · have t1' : t = 1 := by omega
          rw [hP, d0, t1', Bit.runs_one]; simp
        · obtain ⟨k, rfl⟩ : ∃ k, D = k + 1 := ⟨D - 1, by omega⟩
          rw [Bit.runs_many l t k t1 (by omega), hP]
      simp only [ru] at RU
      have s3 := same3_t (l : Int) ((l : Int) + P) t
      have LB := Lib.hid L
      have g0 : (t = 1 ∨ t ≠ 1 ∧ 2 ≤ D) := by omega
      clear ru rm big hD hR hl hh hP hm
      rcases g0 with t1e | ⟨t1n, D2⟩
      · have e1 : ((t : Int) == 1) = true := by rw [beq_iff_eq]; omega
        clear t1e
        go_enter Tryd.func8, Tryd.ntmps8
        go_wp2_with fail
        refine (RA.out _).mono ?_
        rintro e w' ⟨rfl, rfl⟩
        go_wp2_with fail
        go_quiet (first | (go_at_call 28; exact Calls.quiet_of_same ((CO.out _).mono fun _ _ ⟨h1, h2⟩ => ⟨h1, h2.symm⟩)))
        go_wp2_with fail
        refine (RU.out _ (LB.out.below (below_drewN (Below.refl _ _) _))).mono ?_
        rintro e w1 ⟨v, rfl, ho⟩
        have HO := Lib.hid ho
        obtain ⟨g, cap, rfl⟩ : ∃ g cap, v = .slice (some ⟨g, 0, none⟩) 1 cap := by
          rcases ho.row.2 with ⟨_, h0⟩ | ⟨g, cap, _, rfl, _⟩
          · cases h0
          · exact ⟨g, cap, rfl⟩
        obtain ⟨c1, c2, c3⟩ := cells3_own ho.row 0 (by simp)
        simp at c1 c2 c3
        have LW := Lib.hid (LB.out.below (below_drewN (Below.refl _ _) _ |>.trans (ho.below.mono (Nat.le_refl _))))
        clear ho
        go_wp2_with fail
        refine (works_any _ LW.out).mono ?_
        rintro e w2 ⟨rfl, hb2⟩
        go_wp2_with fail
        go_ret
        exact ⟨rfl, (below_drewN (Below.refl _ _) _).trans (HO.out.below.trans (hb2.mono HO.out.below.size))⟩
      · have e1 : ((t : Int) == 1) = false := by rw [beq_eq_false_iff_ne]; omega
        have e2 : decide (2 ≤ (D : Int)) = true := by simp; omega
        have e3 : decide (2 ≤ D) = true := by simpa using D2
        clear t1n
        go_enter Tryd.func8, Tryd.ntmps8
        go_wp2_with fail
        refine (RA.out _).mono ?_
        rintro e w' ⟨rfl, rfl⟩
        go_wp2_with fail
        go_quiet (first | (go_at_call 28; exact Calls.quiet_of_same ((CO.out _).mono fun _ _ ⟨h1, h2⟩ => ⟨h1, h2.symm⟩)))
        go_wp2_with fail
        refine (RU.out _ (LB.out.below (below_drewN (Below.refl _ _) _))).mono ?_
        rintro e w1 ⟨v, rfl, ho⟩
        have HO := Lib.hid ho
        obtain ⟨g, cap, rfl⟩ : ∃ g cap, v = .slice (some ⟨g, 0, none⟩) 1 cap := by
          rcases ho.row.2 with ⟨_, h0⟩ | ⟨g, cap, _, rfl, _⟩
          · cases h0
          · exact ⟨g, cap, rfl⟩
        obtain ⟨c1, c2, c3⟩ := cells3_own ho.row 0 (by simp)
        simp at c1 c2 c3
        have LW := Lib.hid (LB.out.below (below_drewN (Below.refl _ _) _ |>.trans (ho.below.mono (Nat.le_refl _))))
        clear ho
        go_wp2_with fail
        refine (works_any _ LW.out).mono ?_
        rintro e w2 ⟨rfl, hb2⟩
        go_wp2_with fail
        go_ret
        exact ⟨rfl, (below_drewN (Below.refl _ _) _).trans (HO.out.below.trans (hb2.mono HO.out.below.size))⟩
    · have ru : (Bit.runs (Bit.nums l t (D + 1))).length = m := by
        have : D = 0 ∨ D = 1 := by omega
        rcases this with e | e
        · rw [hm, e, Bit.runs_one]; rfl
        · rw [hm, e, Bit.runs_two l t (by omega)]; rfl
      obtain ⟨rs, hrs⟩ : ∃ rs, Bit.runs (Bit.nums l t (D + 1)) = rs := ⟨_, rfl⟩
      simp only [hrs] at RU
      rw [hrs] at ru
      have LB := Lib.hid L
      have e1 : ((t : Int) == 1) = false := by rw [beq_eq_false_iff_ne]; omega
      have e2 : decide (2 ≤ (D : Int)) = false := by simp; omega
      have e3 : decide (2 ≤ D) = false := by simp; omega
      clear rm big hD hR hrs hl hh hP hm
      go_enter Tryd.func8, Tryd.ntmps8
      go_wp2_with fail
      refine (RA.out _).mono ?_
      rintro e w' ⟨rfl, rfl⟩
      go_wp2_with fail
      go_quiet (first | (go_at_call 28; exact Calls.quiet_of_same ((CO.out _).mono fun _ _ ⟨h1, h2⟩ => ⟨h1, h2.symm⟩)))
      go_wp2_with fail
      refine (RU.out _ (LB.out.below (below_drewN (Below.refl _ _) _))).mono ?_
      rintro e w1 ⟨v, rfl, ho⟩
      have HO := Lib.hid ho
      obtain ⟨ad, cap, rfl⟩ : ∃ ad cap, v = .slice ad m cap := by
        rcases ho.row.2 with ⟨rfl, h0⟩ | ⟨g, cap, _, rfl, _⟩
        · rw [ru] at h0; rw [h0]; exact ⟨_, _, rfl⟩
        · rw [ru]; exact ⟨_, _, rfl⟩
      have LW := Lib.hid (LB.out.below (below_drewN (Below.refl _ _) _ |>.trans (ho.below.mono (Nat.le_refl _))))
      clear ho
      go_wp2_with fail
      refine (works_any _ LW.out).mono ?_
      rintro e w2 ⟨rfl, hb2⟩
      go_wp2_with fail
      go_ret
      exact ⟨rfl, (below_drewN (Below.refl _ _) _).trans (HO.out.below.trans (hb2.mono HO.out.below.size))⟩

theorem listed : Rows.bitsRangesRow.laid.find? isTab = some (((Rows.bitsRangesRow.laid.find? isTab).map (·.1)).getD "", Rows.laid_math_bits_deBruijn64tab) := by kernel_rfl

set_option maxRecDepth 100000 in
theorem lifted (os : Os) (started : os.Started) (H : Type) (enc : TypeId × Value → H) :
    ReturnsInHanded {} Tryd.checked os 8 .any (fun w args => (Rows.bitsRangesSpec.pre enc Tryd.prog Tryd.f8 [] false w args ∧ laidMetH Tryd.prog Rows.bitsRangesRow.laid w) ∧ sizedMet enc Tryd.prog Tryd.f8 (OpenSpec.ofChange Rows.bitsRangesSpec) false w args)
      (Rows.bitsRangesSpec.post enc Tryd.prog Tryd.f8 false true false false) := by
  refine returnsInHanded_of_change_and (C := Tryd.checked) (X := fun w _ => laidMetH Tryd.prog Rows.bitsRangesRow.laid w) (fun _ _ _ hh h => h.of_heap hh) own started (by kernel_rfl) Tryd.func8
    (ChangeSpec.witness_shaped (enc := enc) (C := Tryd.checked) (os := os) (X := fun w _ => laidMetH Tryd.prog Rows.bitsRangesRow.laid w) false (World.doorLaid Tryd.prog 400 os) #[.int .u8 0, .int .u8 0, .int .u8 0] 8 rfl (shaped0 os _) (by kernel_rfl) (by kernel_rfl) (by kernel_rfl) (door_met os _)) ?_
  intro W base args ds gs before hval0 hW _ _ hL _
  have hval : ∀ (j : Nat) t v, Tryd.f8.params[j]? = some t → args[j]? = some v → Value.okWide Tryd.prog W .any base t v := hval0
  have hW' := hW
  obtain ⟨p, q, hA0, hV, rfl, hfz, hnd⟩ := hW
  have hA : DataW.TrodAll enc Tryd.prog W 0 (fun _ => true) true Tryd.f8.params.toList args.toList ds p := hA0
  rw [Tryd.params8] at hA hval
  obtain ⟨v0, vs0, d0, ds0, p0, q0, hargs, rfl, rfl, h0, r0⟩ := trodAll_cons hA
  obtain ⟨v1, vs1, d1, ds1, p1, q1, rfl, rfl, rfl, h1, r1⟩ := trodAll_cons r0
  obtain ⟨v2, vs2, d2, ds2, p2, q2, rfl, rfl, rfl, h2, r2⟩ := trodAll_cons r1
  obtain ⟨rfl, rfl, rfl⟩ := trodAll_nil r2
  obtain rfl : args = #[v0, v1, v2] := by cases args; simp_all
  obtain ⟨rfl, rfl⟩ := trodVars_none hV
  obtain ⟨a0, rfl, rfl, rfl, w0⟩ := open_int Tryd.underlying5 (hval 0 5 v0 rfl rfl) h0
  obtain ⟨a1, rfl, rfl, rfl, w1⟩ := open_int Tryd.underlying5 (hval 1 5 v1 rfl rfl) h1
  obtain ⟨a2, rfl, rfl, rfl, w2⟩ := open_int Tryd.underlying5 (hval 2 5 v2 rfl rfl) h2
  clear hA0 hval0
  refine (walk a0 a1 a2 W (lay_of _ W (by kernel_rfl) _ listed hL) w0 w1 w2).mono fun e W' ⟨he, bel⟩ => ?_
  subst he
  exact ⟨_, rfl, _, _, _, [], _, [], hW', trodAll_mk1 (shut_bool Tryd.underlying4 _), (trodAll_cons_mk (shut_int Tryd.underlying5 w0) (trodAll_cons_mk (shut_int Tryd.underlying5 w1) (trodAll_cons_mk (shut_int Tryd.underlying5 w2) trodAll_mk0))), rfl, bel.frame _, fun h => by cases h⟩

theorem row_holds : Rows.BitsRangesSaid :=
  OpenClaim.holds_of_wide 8 Tryd.f8 rfl rfl rfl rfl rfl rfl rfl ⟨rfl, rfl, rfl, rfl, rfl⟩ rfl rfl rfl rfl rfl (by kernel_rfl) Tryd.func8 (by kernel_rfl)
    (of_decide_eq_true (by kernel_rfl)) (by unfold Func.isWrapper; first | (rw [if_pos (by decide +kernel)]; kernel_rfl) | (rw [if_neg (by decide +kernel)]; exact ⟨rfl, rfl⟩))
    (fun os started H enc _ => lifted os started H enc)

theorem proved : Rows.BitsRangesCardSaid :=
  Claim7.holds_tied_plain_at .later [] Rows.bitsRangesCard.laidKinds true Rows.bitsRangesCard.stood.harness Rows.bitsRangesCard.stood.looks
    row_holds (fun _ h => by cases h) (by kernel_rfl) (fun _ h => by cases h) bitsRanges_row_tie rfl ⟨rfl, rfl⟩ (by kernel_rfl) rfl
    (fun f fn hf hfn => by
      obtain rfl : f = 8 := Option.some.inj ((show Tryd.prog.funcNamed Rows.bitsRangesRow.func = some 8 by kernel_rfl).symm.trans hf) |>.symm
      obtain rfl : fn = Tryd.f8 := (Option.some.inj (Tryd.func8.symm.trans hfn)).symm
      exact ⟨looks0, fun j t ht => by
        rw [Tryd.params8] at ht
        have hm : t ∈ [5] := by simpa using Array.mem_of_getElem? ht
        have hall : ([5].all fun u => !Tryd.prog.wantsStandIn u) = true := by kernel_rfl
        exact (show Tryd.prog.wantsStandIn t = false by simpa using List.all_eq_true.1 hall t hm)⟩)
    (by kernel_rfl)
end Go.Proofs.YteabmnaepmkkaaaDoor.bitsRanges
