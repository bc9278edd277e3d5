/- Contracts of the small functions of package sat, and of the document's: what each call returns, for all int64 arguments; the world stays. -/
import Derived.Test.YtnhdcoolhbjmmaaProg
import Derived.Test.YtnhdcoolhbjmmaaSatMath
import Derived.WalkKit
import Derived.ProofKit
namespace Go.Proofs.Ytnhdcoolhbjmmaa
open Go.RowKit

theorem clip_any (a : Int) (w : World) :
    Calls Try.prog 16 #[.int .i64 a] w fun e w' => e = .returned (.int .i64 (clip a)) ∧ w = w' := by
  by_cases h : a < -4611686018427387904
  · rw [clip_lo (by omega)]
    go_enter Try.func16, Try.ntmps16
    go_wp2
    all_goals (go_ret; exact ⟨ret_int (by omega), rfl⟩)
  · by_cases k : 4611686018427387904 < a
    · rw [clip_hi (by omega)]
      go_enter Try.func16, Try.ntmps16
      go_wp2
      all_goals (go_ret; exact ⟨ret_int (by omega), rfl⟩)
    · rw [clip_in (by omega) (by omega)]
      go_enter Try.func16, Try.ntmps16
      go_wp2
      all_goals (go_ret; exact ⟨ret_int (by omega), rfl⟩)

theorem clipR_any (a : Int) (w : World) :
    Calls Try.prog 17 #[.int .i64 a] w fun e w' => e = .returned (.int .i64 (clip a)) ∧ w = w' := by
  by_cases h : a < -4611686018427387904
  · rw [clip_lo (by omega)]
    go_enter Try.func17, Try.ntmps17
    go_wp2
    all_goals (go_ret; exact ⟨ret_int (by omega), rfl⟩)
  · by_cases k : 4611686018427387904 < a
    · rw [clip_hi (by omega)]
      go_enter Try.func17, Try.ntmps17
      go_wp2
      all_goals (go_ret; exact ⟨ret_int (by omega), rfl⟩)
    · rw [clip_in (by omega) (by omega)]
      go_enter Try.func17, Try.ntmps17
      go_wp2
      all_goals (go_ret; exact ⟨ret_int (by omega), rfl⟩)

theorem plus_any (a b : Int) (w : World) (a0 : -9223372036854775808 ≤ a) (a1 : a ≤ 9223372036854775807) (b0 : -9223372036854775808 ≤ b) (b1 : b ≤ 9223372036854775807) :
    Calls Try.prog 14 #[.int .i64 a, .int .i64 b] w fun e w' => e = .returned (.tuple #[.int .i64 (valS (a + b)), .int .i64 (errS (a + b))]) ∧ w = w' := by
  by_cases h : a + b < -9223372036854775808
  · rw [valS_lo h, errS_lo h]
    have k := wrap_lo h (by omega)
    have ha : decide (a < 0) = true := by simp; omega
    have hb : decide (b < 0) = true := by simp; omega
    have hc : decide (wrap64 (a + b) < 0) = false := by simp; omega
    go_enter Try.func14, Try.ntmps14
    go_wp2
    go_ret2
    exact ⟨rfl, rfl⟩
  · by_cases h' : 9223372036854775807 < a + b
    · rw [valS_hi h', errS_hi h']
      have k := wrap_hi h' (by omega)
      have ha : decide (a < 0) = false := by simp; omega
      have hb : decide (b < 0) = false := by simp; omega
      have hc : decide (wrap64 (a + b) < 0) = true := by simp; omega
      go_enter Try.func14, Try.ntmps14
      go_wp2
      go_ret2
      exact ⟨rfl, rfl⟩
    · rw [valS_in (by omega) (by omega), errS_in (by omega) (by omega)]
      by_cases ha : a < 0
      · have da : decide (a < 0) = true := by simp; omega
        by_cases hb : b < 0
        · have db : decide (b < 0) = true := by simp; omega
          have dc : decide (a + b < 0) = true := by simp; omega
          go_enter Try.func14, Try.ntmps14
          go_wp2
          go_ret2
          exact ⟨rfl, rfl⟩
        · have db : decide (b < 0) = false := by simp; omega
          go_enter Try.func14, Try.ntmps14
          go_wp2
          go_ret2
          exact ⟨rfl, rfl⟩
      · have da : decide (a < 0) = false := by simp; omega
        by_cases hb : b < 0
        · have db : decide (b < 0) = true := by simp; omega
          go_enter Try.func14, Try.ntmps14
          go_wp2
          go_ret2
          exact ⟨rfl, rfl⟩
        · have db : decide (b < 0) = false := by simp; omega
          have dc : decide (a + b < 0) = false := by simp; omega
          go_enter Try.func14, Try.ntmps14
          go_wp2
          go_ret2
          exact ⟨rfl, rfl⟩

theorem plusR_any (a b : Int) (w : World) (a0 : -9223372036854775808 ≤ a) (a1 : a ≤ 9223372036854775807) (b0 : -9223372036854775808 ≤ b) (b1 : b ≤ 9223372036854775807) :
    Calls Try.prog 15 #[.int .i64 a, .int .i64 b] w fun e w' => e = .returned (.tuple #[.int .i64 (valS (a + b)), .int .i64 (errS (a + b))]) ∧ w = w' := by
  by_cases h : a + b < -9223372036854775808
  · rw [valS_lo h, errS_lo h]
    have hb : decide (0 < b) = false := by simp; omega
    have hb' : decide (b < 0) = true := by simp; omega
    have hc : decide (a < -9223372036854775808 - b) = true := by simp; omega
    go_enter Try.func15, Try.ntmps15
    go_wp2
    go_ret2
    exact ⟨rfl, rfl⟩
  · by_cases h' : 9223372036854775807 < a + b
    · rw [valS_hi h', errS_hi h']
      have hb : decide (0 < b) = true := by simp; omega
      have hc : decide (9223372036854775807 - b < a) = true := by simp; omega
      go_enter Try.func15, Try.ntmps15
      go_wp2
      go_ret2
      exact ⟨rfl, rfl⟩
    · rw [valS_in (by omega) (by omega), errS_in (by omega) (by omega)]
      by_cases hb : 0 < b
      · have db : decide (0 < b) = true := by simp; omega
        have db' : decide (b < 0) = false := by simp; omega
        have hc : decide (9223372036854775807 - b < a) = false := by simp; omega
        go_enter Try.func15, Try.ntmps15
        go_wp2
        go_ret2
        exact ⟨rfl, rfl⟩
      · have db : decide (0 < b) = false := by simp; omega
        by_cases hz : b < 0
        · have db' : decide (b < 0) = true := by simp; omega
          have hc : decide (a < -9223372036854775808 - b) = false := by simp; omega
          go_enter Try.func15, Try.ntmps15
          go_wp2
          go_ret2
          exact ⟨rfl, rfl⟩
        · have db' : decide (b < 0) = false := by simp; omega
          go_enter Try.func15, Try.ntmps15
          go_wp2
          go_ret2
          exact ⟨rfl, rfl⟩
end Go.Proofs.Ytnhdcoolhbjmmaa
