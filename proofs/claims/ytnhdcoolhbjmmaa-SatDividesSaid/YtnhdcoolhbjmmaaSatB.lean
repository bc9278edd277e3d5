/- Contracts of Add, Sub, Div and Ceil of package sat, and of the document's: what each call returns, for all int64 arguments; nothing in memory changes. -/
import Derived.Test.YtnhdcoolhbjmmaaSatA
import Derived.Deep.QuietTactic
import Derived.BigQuiet
import Derived.Lib.Hide
namespace Go.Proofs.Ytnhdcoolhbjmmaa
open Go.RowKit

theorem plus_fit (a b : Int) (w : World) (a0 : -9223372036854775808 ≤ a) (a1 : a ≤ 9223372036854775807) (b0 : -9223372036854775808 ≤ b) (b1 : b ≤ 9223372036854775807) (c0 : -9223372036854775808 ≤ a + b) (c1 : a + b ≤ 9223372036854775807) :
    Calls Try.prog 14 #[.int .i64 a, .int .i64 b] w fun e w' => e = .returned (.tuple #[.int .i64 (a + b), .int .i64 0]) ∧ w = w' := by
  have h := plus_any a b w a0 a1 b0 b1
  rwa [valS_in c0 c1, errS_in c0 c1] at h
theorem plus_over (a b : Int) (w : World) (a0 : -9223372036854775808 ≤ a) (a1 : a ≤ 9223372036854775807) (b0 : -9223372036854775808 ≤ b) (b1 : b ≤ 9223372036854775807) (c1 : 9223372036854775807 < a + b) :
    Calls Try.prog 14 #[.int .i64 a, .int .i64 b] w fun e w' => e = .returned (.tuple #[.int .i64 0, .int .i64 7]) ∧ w = w' := by
  have h := plus_any a b w a0 a1 b0 b1
  rwa [valS_hi c1, errS_hi c1] at h

theorem add_any (a b : Int) (w : World) :
    Calls Try.prog 18 #[.int .i64 a, .int .i64 b] w fun e w' => e = .returned (.int .i64 (addS a b)) ∧ w = w' := by
  unfold addS
  obtain ⟨a0, a1⟩ := clip_bd a
  obtain ⟨b0, b1⟩ := clip_bd b
  by_cases h : clip a + clip b ≤ 9223372036854775807
  · go_enter Try.func18, Try.ntmps18
    go_wp2_with (first | (go_at_call 16; refine (clip_any _ _).mono ?_; rintro e w' ⟨rfl, rfl⟩) | (go_at_call 14; refine (plus_fit _ _ _ (by omega) (by omega) (by omega) (by omega) (by omega) (by omega)).mono ?_; rintro e w' ⟨rfl, rfl⟩))
    go_ret
    exact ⟨rfl, rfl⟩
  · rw [clip_hi (by omega)]
    go_enter Try.func18, Try.ntmps18
    go_wp2_with (first | (go_at_call 16; refine (clip_any _ _).mono ?_; rintro e w' ⟨rfl, rfl⟩) | (go_at_call 14; refine (plus_over _ _ _ (by omega) (by omega) (by omega) (by omega) (by omega)).mono ?_; rintro e w' ⟨rfl, rfl⟩))
    go_ret
    exact ⟨rfl, rfl⟩

theorem addR_any (a b : Int) (w : World) :
    Calls Try.prog 19 #[.int .i64 a, .int .i64 b] w fun e w' => e = .returned (.int .i64 (addS a b)) ∧ w = w' := by
  unfold addS
  obtain ⟨a0, a1⟩ := clip_bd a
  obtain ⟨b0, b1⟩ := clip_bd b
  by_cases h : clip a + clip b < -4611686018427387904
  · rw [clip_lo (by omega)]
    have d0 : decide (0 < clip b) = false := by simp; omega
    have d1 : decide (clip b < 0) = true := by simp; omega
    have d2 : decide (clip a < -4611686018427387904 - clip b) = true := by simp; omega
    go_enter Try.func19, Try.ntmps19
    go_wp2_with (first | (go_at_call 17; refine (clipR_any _ _).mono ?_; rintro e w' ⟨rfl, rfl⟩))
    go_ret
    exact ⟨rfl, rfl⟩
  · by_cases h' : 4611686018427387904 < clip a + clip b
    · rw [clip_hi (by omega)]
      have d0 : decide (0 < clip b) = true := by simp; omega
      have d2 : decide (4611686018427387904 - clip b < clip a) = true := by simp; omega
      go_enter Try.func19, Try.ntmps19
      go_wp2_with (first | (go_at_call 17; refine (clipR_any _ _).mono ?_; rintro e w' ⟨rfl, rfl⟩))
      go_ret
      exact ⟨rfl, rfl⟩
    · rw [clip_in (by omega) (by omega)]
      by_cases p : 0 < clip b
      · have d0 : decide (0 < clip b) = true := by simp; omega
        have d1 : decide (clip b < 0) = false := by simp; omega
        have d2 : decide (4611686018427387904 - clip b < clip a) = false := by simp; omega
        go_enter Try.func19, Try.ntmps19
        go_wp2_with (first | (go_at_call 17; refine (clipR_any _ _).mono ?_; rintro e w' ⟨rfl, rfl⟩))
        go_ret
        exact ⟨rfl, rfl⟩
      · have d0 : decide (0 < clip b) = false := by simp; omega
        by_cases q : clip b < 0
        · have d1 : decide (clip b < 0) = true := by simp; omega
          have d2 : decide (clip a < -4611686018427387904 - clip b) = false := by simp; omega
          go_enter Try.func19, Try.ntmps19
          go_wp2_with (first | (go_at_call 17; refine (clipR_any _ _).mono ?_; rintro e w' ⟨rfl, rfl⟩))
          go_ret
          exact ⟨rfl, rfl⟩
        · have d1 : decide (clip b < 0) = false := by simp; omega
          go_enter Try.func19, Try.ntmps19
          go_wp2_with (first | (go_at_call 17; refine (clipR_any _ _).mono ?_; rintro e w' ⟨rfl, rfl⟩))
          go_ret
          exact ⟨rfl, rfl⟩

theorem addS_sub (a b : Int) : addS a (-clip b) = subS a b := by
  unfold addS subS; rw [clip_neg, clip_clip]; rfl

theorem sub_any (a b : Int) (w : World) :
    Calls Try.prog 20 #[.int .i64 a, .int .i64 b] w fun e w' => e = .returned (.int .i64 (subS a b)) ∧ w = w' := by
  rw [← addS_sub]
  obtain ⟨b0, b1⟩ := clip_bd b
  go_enter Try.func20, Try.ntmps20
  go_wp2_with (first | (go_at_call 16; refine (clip_any _ _).mono ?_; rintro e w' ⟨rfl, rfl⟩) | (go_at_call 18; refine (add_any _ _ _).mono ?_; rintro e w' ⟨rfl, rfl⟩))
  go_ret
  exact ⟨rfl, rfl⟩

theorem subR_any (a b : Int) (w : World) :
    Calls Try.prog 21 #[.int .i64 a, .int .i64 b] w fun e w' => e = .returned (.int .i64 (subS a b)) ∧ w = w' := by
  rw [← addS_sub]
  obtain ⟨b0, b1⟩ := clip_bd b
  go_enter Try.func21, Try.ntmps21
  go_wp2_with (first | (go_at_call 17; refine (clipR_any _ _).mono ?_; rintro e w' ⟨rfl, rfl⟩) | (go_at_call 19; refine (addR_any _ _ _).mono ?_; rintro e w' ⟨rfl, rfl⟩))
  go_ret
  exact ⟨rfl, rfl⟩

theorem div_any (a b : Int) (w : World) (a0 : -9223372036854775808 ≤ a) (a1 : a ≤ 9223372036854775807) (b0 : 1 ≤ b) (b1 : b ≤ 9223372036854775807) :
    Calls Try.prog 27 #[.int .i64 a, .int .i64 b] w fun e w' => e = .returned (.tuple #[.int .i64 (a / b), .int .i64 (a % b), .int .i64 0]) ∧ ∃ n, w' = w.drewN n := by
  by_cases h : 0 ≤ a
  · have r0 : 0 ≤ a % b := Int.emod_nonneg _ (by omega)
    go_enter Try.func27, Try.ntmps27
    go_wp2
    go_quiet (fail)
    go_wp2
    go_ret3
    exact ⟨rfl, _, rfl⟩
  · obtain ⟨r0, r1, q0, q1, e⟩ := quo_neg (a := a) (b := b) (by omega) b0
    clear e
    by_cases r : a.tmod b < 0
    · obtain ⟨e1, e2, e3⟩ := (quo_floor (by omega) b0 r).resolve_right (by omega)
      have E1 := Lib.hid e1
      have E2 := Lib.hid e2
      clear e1 e2
      go_enter Try.func27, Try.ntmps27
      go_wp2
      go_quiet (fail)
      go_wp2
      go_ret3
      exact ⟨ret_three E1.out.symm E2.out.symm rfl, _, rfl⟩
    · obtain ⟨e1, e2⟩ := quo_exact (a := a) (by omega) b0 (by omega)
      have E1 := Lib.hid e1
      have E2 := Lib.hid e2
      clear e1 e2
      go_enter Try.func27, Try.ntmps27
      go_wp2
      go_quiet (fail)
      go_wp2
      go_ret3
      exact ⟨ret_three E1.out.symm E2.out.symm rfl, _, rfl⟩

theorem div_no (a b : Int) (w : World) (b0 : b < 1) :
    Calls Try.prog 27 #[.int .i64 a, .int .i64 b] w fun e w' => e = .returned (.tuple #[.int .i64 0, .int .i64 0, .int .i64 2]) ∧ w = w' := by
  go_enter Try.func27, Try.ntmps27
  go_wp2
  go_ret3
  exact ⟨rfl, rfl⟩

theorem divR_any (a b : Int) (w : World) (a0 : -9223372036854775808 ≤ a) (a1 : a ≤ 9223372036854775807) (b0 : 1 ≤ b) (b1 : b ≤ 9223372036854775807) :
    Calls Try.prog 28 #[.int .i64 a, .int .i64 b] w fun e w' => e = .returned (.tuple #[.int .i64 (a / b), .int .i64 (a % b), .int .i64 0]) ∧ ∃ n, w' = w.drewN n := by
  by_cases h : 0 ≤ a
  · have r0 : 0 ≤ a % b := Int.emod_nonneg _ (by omega)
    go_enter Try.func28, Try.ntmps28
    go_wp2
    go_quiet (fail)
    go_wp2
    go_ret3
    exact ⟨rfl, _, rfl⟩
  · obtain ⟨r0, r1, q0, q1, e⟩ := quo_neg (a := a) (b := b) (by omega) b0
    clear e
    by_cases r : a.tmod b < 0
    · obtain ⟨e1, e2, e3⟩ := (quo_floor (by omega) b0 r).resolve_right (by omega)
      have E1 := Lib.hid e1
      have E2 := Lib.hid e2
      clear e1 e2
      go_enter Try.func28, Try.ntmps28
      go_wp2
      go_quiet (fail)
      go_wp2
      go_ret3
      exact ⟨ret_three E1.out.symm E2.out.symm rfl, _, rfl⟩
    · obtain ⟨e1, e2⟩ := quo_exact (a := a) (by omega) b0 (by omega)
      have E1 := Lib.hid e1
      have E2 := Lib.hid e2
      clear e1 e2
      go_enter Try.func28, Try.ntmps28
      go_wp2
      go_quiet (fail)
      go_wp2
      go_ret3
      exact ⟨ret_three E1.out.symm E2.out.symm rfl, _, rfl⟩

theorem divR_no (a b : Int) (w : World) (b0 : b < 1) :
    Calls Try.prog 28 #[.int .i64 a, .int .i64 b] w fun e w' => e = .returned (.tuple #[.int .i64 0, .int .i64 0, .int .i64 2]) ∧ w = w' := by
  go_enter Try.func28, Try.ntmps28
  go_wp2
  go_ret3
  exact ⟨rfl, rfl⟩

theorem ceil_any (a b : Int) (w : World) (a0 : -9223372036854775808 ≤ a) (a1 : a ≤ 9223372036854775807) (b0 : 1 ≤ b) (b1 : b ≤ 9223372036854775807) :
    Calls Try.prog 29 #[.int .i64 a, .int .i64 b] w fun e w' => e = .returned (.tuple #[.int .i64 (ceilS a b), .int .i64 0]) ∧ ∃ n, w' = w.drewN n := by
  obtain ⟨c0, c1, c2⟩ := ceil_bd a0 a1 b0
  by_cases r : 0 < a % b
  · rw [ceilS_up r]
    have k := c2 r
    clear c2
    go_enter Try.func29, Try.ntmps29
    go_wp2_with (go_at_call 27; refine (div_any _ _ _ a0 a1 b0 b1).mono ?_; rintro e w' ⟨rfl, n, rfl⟩)
    go_ret2
    exact ⟨rfl, _, rfl⟩
  · rw [ceilS_eq r]
    clear c2
    go_enter Try.func29, Try.ntmps29
    go_wp2_with (go_at_call 27; refine (div_any _ _ _ a0 a1 b0 b1).mono ?_; rintro e w' ⟨rfl, n, rfl⟩)
    go_ret2
    exact ⟨rfl, _, rfl⟩

theorem ceil_no (a b : Int) (w : World) (b0 : b < 1) :
    Calls Try.prog 29 #[.int .i64 a, .int .i64 b] w fun e w' => e = .returned (.tuple #[.int .i64 0, .int .i64 2]) ∧ w = w' := by
  go_enter Try.func29, Try.ntmps29
  go_wp2_with (go_at_call 27; refine (div_no _ _ _ b0).mono ?_; rintro e w' ⟨rfl, rfl⟩)
  go_ret2
  exact ⟨rfl, rfl⟩

theorem ceilR_any (a b : Int) (w : World) (a0 : -9223372036854775808 ≤ a) (a1 : a ≤ 9223372036854775807) (b0 : 1 ≤ b) (b1 : b ≤ 9223372036854775807) :
    Calls Try.prog 30 #[.int .i64 a, .int .i64 b] w fun e w' => e = .returned (.tuple #[.int .i64 (ceilS a b), .int .i64 0]) ∧ ∃ n, w' = w.drewN n := by
  obtain ⟨c0, c1, c2⟩ := ceil_bd a0 a1 b0
  by_cases r : 0 < a % b
  · rw [ceilS_up r]
    have k := c2 r
    clear c2
    go_enter Try.func30, Try.ntmps30
    go_wp2_with (go_at_call 28; refine (divR_any _ _ _ a0 a1 b0 b1).mono ?_; rintro e w' ⟨rfl, n, rfl⟩)
    go_ret2
    exact ⟨rfl, _, rfl⟩
  · rw [ceilS_eq r]
    clear c2
    go_enter Try.func30, Try.ntmps30
    go_wp2_with (go_at_call 28; refine (divR_any _ _ _ a0 a1 b0 b1).mono ?_; rintro e w' ⟨rfl, n, rfl⟩)
    go_ret2
    exact ⟨rfl, _, rfl⟩

theorem ceilR_no (a b : Int) (w : World) (b0 : b < 1) :
    Calls Try.prog 30 #[.int .i64 a, .int .i64 b] w fun e w' => e = .returned (.tuple #[.int .i64 0, .int .i64 2]) ∧ w = w' := by
  go_enter Try.func30, Try.ntmps30
  go_wp2_with (go_at_call 28; refine (divR_no _ _ _ b0).mono ?_; rintro e w' ⟨rfl, rfl⟩)
  go_ret2
  exact ⟨rfl, rfl⟩

end Go.Proofs.Ytnhdcoolhbjmmaa
