/- Contract of the document's Mul. -/
import Derived.Test.YtnhdcoolhbjmmaaSatD
namespace Go.Proofs.Ytnhdcoolhbjmmaa
open Go.RowKit

theorem mulR_any (a b : Int) (w : World) :
    Calls Try.prog 26 #[.int .i64 a, .int .i64 b] w fun e w' => e = .returned (.int .i64 (mulS a b)) ∧ w = w' := by
  unfold mulS
  obtain ⟨a0, a1⟩ := clip_bd a
  obtain ⟨b0, b1⟩ := clip_bd b
  by_cases za : clip a = 0
  · have ea : (clip a == 0) = true := beq_iff_eq.2 za
    rw [za, Int.zero_mul, clip_in (by omega) (by omega)]
    clear za
    go_enter Try.func26, Try.ntmps26
    go_wp2_with (first | (go_at_call 17; refine (clipR_any _ _).mono ?_; rintro e w' ⟨rfl, rfl⟩))
    go_ret
    exact ⟨rfl, rfl⟩
  · have ea : (clip a == 0) = false := beq_eq_false_iff_ne.2 za
    by_cases zb : clip b = 0
    · have eb : (clip b == 0) = true := beq_iff_eq.2 zb
      rw [zb, Int.mul_zero, clip_in (by omega) (by omega)]
      clear zb
      go_enter Try.func26, Try.ntmps26
      go_wp2_with (first | (go_at_call 17; refine (clipR_any _ _).mono ?_; rintro e w' ⟨rfl, rfl⟩))
      go_ret
      exact ⟨rfl, rfl⟩
    · have eb : (clip b == 0) = false := beq_eq_false_iff_ne.2 zb
      by_cases pa : 0 < clip a
      · have da : decide (clip a < 0) = false := by simp; omega
        by_cases pb : 0 < clip b
        · have db : decide (clip b < 0) = false := by simp; omega
          go_enter Try.func26, Try.ntmps26
          go_wp2_with (first | (go_at_call 17; refine (clipR_any _ _).mono ?_; rintro e w' ⟨rfl, rfl⟩))
          all_goals (go_ret; exact ⟨ret_int (by first | exact mul_same_fit za zb (by omega) (by assumption) | exact mul_same_over za zb (by omega) (by assumption)), rfl⟩)
        · have db : decide (clip b < 0) = true := by simp; omega
          go_enter Try.func26, Try.ntmps26
          go_wp2_with (first | (go_at_call 17; refine (clipR_any _ _).mono ?_; rintro e w' ⟨rfl, rfl⟩))
          all_goals (go_ret; exact ⟨ret_int (by first | exact mul_opp_fit za zb (by omega) (by assumption) | exact mul_opp_over za zb (by omega) (by assumption)), rfl⟩)
      · have da : decide (clip a < 0) = true := by simp; omega
        by_cases pb : 0 < clip b
        · have db : decide (clip b < 0) = false := by simp; omega
          go_enter Try.func26, Try.ntmps26
          go_wp2_with (first | (go_at_call 17; refine (clipR_any _ _).mono ?_; rintro e w' ⟨rfl, rfl⟩))
          all_goals (go_ret; exact ⟨ret_int (by first | exact mul_opp_fit za zb (by omega) (by assumption) | exact mul_opp_over za zb (by omega) (by assumption)), rfl⟩)
        · have db : decide (clip b < 0) = true := by simp; omega
          go_enter Try.func26, Try.ntmps26
          go_wp2_with (first | (go_at_call 17; refine (clipR_any _ _).mono ?_; rintro e w' ⟨rfl, rfl⟩))
          all_goals (go_ret; exact ⟨ret_int (by first | exact mul_same_fit za zb (by omega) (by assumption) | exact mul_same_over za zb (by omega) (by assumption)), rfl⟩)
end Go.Proofs.Ytnhdcoolhbjmmaa
