/- Contracts of Mul of package sat, and of the document's Mul and Times: what each call returns; nothing in memory that was there changes. -/
import Derived.Test.YtnhdcoolhbjmmaaSatC
namespace Go.Proofs.Ytnhdcoolhbjmmaa
open Go.RowKit

theorem times_fit (a b : Int) (w : World) (a0 : -9223372036854775808 ≤ a) (a1 : a ≤ 9223372036854775807) (b0 : -9223372036854775808 ≤ b) (b1 : b ≤ 9223372036854775807) (n : Int) (hn : a * b = n) (c0 : -9223372036854775808 ≤ n) (c1 : n ≤ 9223372036854775807) :
    Calls Try.prog 23 #[.int .i64 a, .int .i64 b] w fun e w' => e = .returned (.tuple #[.int .i64 n, .int .i64 0]) ∧ Below w.heap.size w w' := by
  have h := times_any a b w a0 a1 b0 b1
  rw [hn, valS_in c0 c1, errS_in c0 c1] at h
  exact h
theorem times_over (a b : Int) (w : World) (a0 : -9223372036854775808 ≤ a) (a1 : a ≤ 9223372036854775807) (b0 : -9223372036854775808 ≤ b) (b1 : b ≤ 9223372036854775807) (c1 : a * b < -9223372036854775808 ∨ 9223372036854775807 < a * b) :
    Calls Try.prog 23 #[.int .i64 a, .int .i64 b] w fun e w' => e = .returned (.tuple #[.int .i64 0, .int .i64 7]) ∧ Below w.heap.size w w' := by
  have h := times_any a b w a0 a1 b0 b1
  rcases c1 with c | c
  · rw [valS_lo c, errS_lo c] at h
    exact h
  · rw [valS_hi c, errS_hi c] at h
    exact h

theorem mul_any (a b : Int) (w : World) :
    Calls Try.prog 25 #[.int .i64 a, .int .i64 b] w fun e w' => e = .returned (.int .i64 (mulS a b)) ∧ Below w.heap.size w w' := by
  unfold mulS
  obtain ⟨a0, a1⟩ := clip_bd a
  obtain ⟨b0, b1⟩ := clip_bd b
  by_cases f : -9223372036854775808 ≤ clip a * clip b ∧ clip a * clip b ≤ 9223372036854775807
  · obtain ⟨n, hn⟩ : ∃ n, clip a * clip b = n := ⟨_, rfl⟩
    rw [hn] at f ⊢
    obtain ⟨f0, f1⟩ := f
    have HN := Lib.hid hn
    clear hn
    go_enter Try.func25, Try.ntmps25
    go_wp2_with (first | (go_at_call 16; refine (clip_any _ _).mono ?_; rintro e w' ⟨rfl, rfl⟩) | (go_at_call 23; refine (times_fit _ _ _ (by omega) (by omega) (by omega) (by omega) n HN.out f0 f1).mono ?_; rintro e w' ⟨rfl, hb⟩))
    go_ret
    exact ⟨rfl, hb⟩
  · by_cases m : clip a < 0 ∧ 0 ≤ clip b ∨ 0 ≤ clip a ∧ clip b < 0
    · have p := (abs_opp m).2
      rw [clip_lo (by omega)]
      have c : clip a * clip b < -9223372036854775808 ∨ 9223372036854775807 < clip a * clip b := by omega
      have C := Lib.hid c
      clear f p c
      go_enter Try.func25, Try.ntmps25
      go_wp2_with (first | (go_at_call 16; refine (clip_any _ _).mono ?_; rintro e w' ⟨rfl, rfl⟩) | (go_at_call 36; refine (opp_t _ _ _ m).mono ?_; rintro e w' ⟨rfl, rfl⟩) | (go_at_call 23; refine (times_over _ _ _ (by omega) (by omega) (by omega) (by omega) C.out).mono ?_; rintro e w' ⟨rfl, hb⟩))
      go_ret
      exact ⟨rfl, hb⟩
    · have p := (abs_same m).2
      rw [clip_hi (by omega)]
      have c : clip a * clip b < -9223372036854775808 ∨ 9223372036854775807 < clip a * clip b := by omega
      have C := Lib.hid c
      have m : clip a < 0 ∧ clip b < 0 ∨ 0 ≤ clip a ∧ 0 ≤ clip b := by omega
      clear f p c
      go_enter Try.func25, Try.ntmps25
      go_wp2_with (first | (go_at_call 16; refine (clip_any _ _).mono ?_; rintro e w' ⟨rfl, rfl⟩) | (go_at_call 36; refine (opp_f _ _ _ m).mono ?_; rintro e w' ⟨rfl, rfl⟩) | (go_at_call 23; refine (times_over _ _ _ (by omega) (by omega) (by omega) (by omega) C.out).mono ?_; rintro e w' ⟨rfl, hb⟩))
      go_ret
      exact ⟨rfl, hb⟩

theorem timesR_any (a b : Int) (w : World) (a0 : -9223372036854775808 ≤ a) (a1 : a ≤ 9223372036854775807) (b0 : -9223372036854775808 ≤ b) (b1 : b ≤ 9223372036854775807) :
    Calls Try.prog 24 #[.int .i64 a, .int .i64 b] w fun e w' => e = .returned (.tuple #[.int .i64 (valS (a * b)), .int .i64 (errS (a * b))]) ∧ w = w' := by
  by_cases za : a = 0
  · subst za
    rw [Int.zero_mul, valS_in (by omega) (by omega), errS_in (by omega) (by omega)]
    go_enter Try.func24, Try.ntmps24
    go_wp2
    go_ret2
    exact ⟨rfl, rfl⟩
  · have ea : (a == 0) = false := beq_eq_false_iff_ne.2 za
    by_cases zb : b = 0
    · subst zb
      rw [Int.mul_zero, valS_in (by omega) (by omega), errS_in (by omega) (by omega)]
      go_enter Try.func24, Try.ntmps24
      go_wp2
      go_ret2
      exact ⟨rfl, rfl⟩
    · have eb : (b == 0) = false := beq_eq_false_iff_ne.2 zb
      by_cases pa : 0 < a
      · have da : decide (0 < a) = true := by simp; omega
        have da' : decide (a < 0) = false := by simp; omega
        by_cases pb : 0 < b
        · have db : decide (0 < b) = true := by simp; omega
          have db' : decide (b < 0) = false := by simp; omega
          by_cases t : 9223372036854775807 / b < a
          · have dt : decide (9223372036854775807 / b < a) = true := by simp; exact t
            have u := (test_pp pb).1 t
            rw [valS_hi u, errS_hi u]
            clear u t
            go_enter Try.func24, Try.ntmps24
            go_wp2
            go_ret2
            exact ⟨rfl, rfl⟩
          · have dt : decide (9223372036854775807 / b < a) = false := by simp; omega
            have u : ¬ 9223372036854775807 < a * b := fun h => t ((test_pp pb).2 h)
            have s := Int.mul_nonneg (show 0 ≤ a by omega) (show 0 ≤ b by omega)
            rw [valS_in (by omega) (by omega), errS_in (by omega) (by omega)]
            have E := Lib.hid (wrap_id (n := a * b) (by omega) (by omega))
            clear u t s
            go_enter Try.func24, Try.ntmps24
            go_wp2
            go_ret2
            exact ⟨ret_two (by first | rfl | exact E.out) rfl, rfl⟩
        · have db : decide (0 < b) = false := by simp; omega
          have db' : decide (b < 0) = true := by simp; omega
          by_cases t : b < wrap64 (-Int.tdiv 9223372036854775808 a)
          · have dt : decide (b < wrap64 (-Int.tdiv 9223372036854775808 a)) = true := by simp; exact t
            have u := (test_pn pa).1 t
            rw [valS_lo u, errS_lo u]
            clear u t
            go_enter Try.func24, Try.ntmps24
            go_wp2
            go_ret2
            exact ⟨rfl, rfl⟩
          · have dt : decide (b < wrap64 (-Int.tdiv 9223372036854775808 a)) = false := by simp; omega
            have u : ¬ a * b < -9223372036854775808 := fun h => t ((test_pn pa).2 h)
            have s := Int.mul_nonpos_of_nonneg_of_nonpos (show 0 ≤ a by omega) (show b ≤ 0 by omega)
            rw [valS_in (by omega) (by omega), errS_in (by omega) (by omega)]
            have E := Lib.hid (wrap_id (n := a * b) (by omega) (by omega))
            clear u t s
            go_enter Try.func24, Try.ntmps24
            go_wp2
            go_ret2
            exact ⟨ret_two (by first | rfl | exact E.out) rfl, rfl⟩
      · have da : decide (0 < a) = false := by simp; omega
        have da' : decide (a < 0) = true := by simp; omega
        by_cases pb : 0 < b
        · have db : decide (0 < b) = true := by simp; omega
          have db' : decide (b < 0) = false := by simp; omega
          rw [Int.mul_comm a b]
          by_cases t : a < wrap64 (-Int.tdiv 9223372036854775808 b)
          · have dt : decide (a < wrap64 (-Int.tdiv 9223372036854775808 b)) = true := by simp; exact t
            have u := (test_pn pb).1 t
            rw [valS_lo u, errS_lo u]
            clear u t
            go_enter Try.func24, Try.ntmps24
            go_wp2
            go_ret2
            exact ⟨rfl, rfl⟩
          · have dt : decide (a < wrap64 (-Int.tdiv 9223372036854775808 b)) = false := by simp; omega
            have u : ¬ b * a < -9223372036854775808 := fun h => t ((test_pn pb).2 h)
            have s := Int.mul_nonpos_of_nonneg_of_nonpos (show 0 ≤ b by omega) (show a ≤ 0 by omega)
            rw [valS_in (by omega) (by omega), errS_in (by omega) (by omega)]
            have E := Lib.hid (wrap_id (n := b * a) (by omega) (by omega))
            clear u t s
            go_enter Try.func24, Try.ntmps24
            go_wp2
            go_ret2
            exact ⟨ret_two (by first | rfl | (rw [Int.mul_comm a b]; exact E.out)) rfl, rfl⟩
        · have db : decide (0 < b) = false := by simp; omega
          have db' : decide (b < 0) = true := by simp; omega
          by_cases t : a < wrap64 (Int.tdiv 9223372036854775807 b)
          · have dt : decide (a < wrap64 (Int.tdiv 9223372036854775807 b)) = true := by simp; exact t
            have u := (test_nn (by omega)).1 t
            rw [valS_hi u, errS_hi u]
            clear u t
            go_enter Try.func24, Try.ntmps24
            go_wp2
            go_ret2
            exact ⟨rfl, rfl⟩
          · have dt : decide (a < wrap64 (Int.tdiv 9223372036854775807 b)) = false := by simp; omega
            have u : ¬ 9223372036854775807 < a * b := fun h => t ((test_nn (by omega)).2 h)
            have s := Int.mul_nonneg_of_nonpos_of_nonpos (show a ≤ 0 by omega) (show b ≤ 0 by omega)
            rw [valS_in (by omega) (by omega), errS_in (by omega) (by omega)]
            have E := Lib.hid (wrap_id (n := a * b) (by omega) (by omega))
            clear u t s
            go_enter Try.func24, Try.ntmps24
            go_wp2
            go_ret2
            exact ⟨ret_two (by first | rfl | exact E.out) rfl, rfl⟩
end Go.Proofs.Ytnhdcoolhbjmmaa
