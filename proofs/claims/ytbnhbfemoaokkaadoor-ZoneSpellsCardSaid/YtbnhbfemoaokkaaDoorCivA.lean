/- Contracts of Leap, leaps and before, of package civil and of the document's: what each call returns; the world stays. -/
import Derived.Test.YtbnhbfemoaokkaaDoorProg
import Derived.Test.YtbnhbfemoaokkaaDoorCivMath
import Derived.WalkKit
import Derived.ProofKit
import Derived.Lib.Hide
namespace Go.Proofs.YtbnhbfemoaokkaaDoor
open Go.RowKit

theorem ret_int {k : IntKind} {a b : Int} (h : a = b) : Ending.returned (.int k a) = .returned (.int k b) := by rw [h]

def lpB (y : Int) : Bool := decide (y % 4 = 0 ∧ y % 100 ≠ 0 ∨ y % 400 = 0)
theorem lpB_t {y : Int} (h : y % 4 = 0 ∧ y % 100 ≠ 0 ∨ y % 400 = 0) : lpB y = true := by simpa [lpB] using h
theorem lpB_f {y : Int} (h : ¬ (y % 4 = 0 ∧ y % 100 ≠ 0 ∨ y % 400 = 0)) : lpB y = false := by simpa [lpB] using h
theorem lpB_lp (y : Int) : Civ.lp y = if lpB y = true then 1 else 0 := by
  unfold Civ.lp lpB; simp
theorem tmod4 (y : Int) : y.tmod 4 = 0 ↔ y % 4 = 0 := by
  rw [← Int.dvd_iff_tmod_eq_zero, ← Int.dvd_iff_emod_eq_zero]
theorem tmod100 (y : Int) : y.tmod 100 = 0 ↔ y % 100 = 0 := by
  rw [← Int.dvd_iff_tmod_eq_zero, ← Int.dvd_iff_emod_eq_zero]
theorem tmod400 (y : Int) : y.tmod 400 = 0 ↔ y % 400 = 0 := by
  rw [← Int.dvd_iff_tmod_eq_zero, ← Int.dvd_iff_emod_eq_zero]

theorem leap_t (y : Int) (w : World) (h : y % 4 = 0 ∧ y % 100 ≠ 0 ∨ y % 400 = 0) :
    Calls Tryd.prog 58 #[.int .i64 y] w fun e w' => e = .returned (.bool true) ∧ w = w' := by
  have c4 : y % 4 = 0 := by omega
  have t4 : (y % 4 == 0) = true := beq_iff_eq.2 c4
  have t4' : (y.tmod 4 == 0) = true := beq_iff_eq.2 ((tmod4 y).2 c4)
  clear c4
  by_cases p : 0 ≤ y
  · by_cases c : y % 100 = 0
    · have t1 : (y % 100 != 0) = false := by simpa using c
      have t3 : (y % 400 == 0) = true := by rw [beq_iff_eq]; omega
      clear c h
      go_enter Tryd.func58, Tryd.ntmps58
      go_wp2
      go_ret
      exact ⟨rfl, rfl⟩
    · have t1 : (y % 100 != 0) = true := by simpa using c
      clear c h
      go_enter Tryd.func58, Tryd.ntmps58
      go_wp2
      go_ret
      exact ⟨rfl, rfl⟩
  · by_cases c : y % 100 = 0
    · have t1 : (y.tmod 100 != 0) = false := by simpa using (tmod100 y).2 c
      have t3 : (y.tmod 400 == 0) = true := beq_iff_eq.2 ((tmod400 y).2 (by omega))
      clear c h
      go_enter Tryd.func58, Tryd.ntmps58
      go_wp2
      go_ret
      exact ⟨rfl, rfl⟩
    · have t1 : (y.tmod 100 != 0) = true := by simpa using mt (tmod100 y).1 c
      clear c h
      go_enter Tryd.func58, Tryd.ntmps58
      go_wp2
      go_ret
      exact ⟨rfl, rfl⟩

theorem leap_f (y : Int) (w : World) (h : ¬ (y % 4 = 0 ∧ y % 100 ≠ 0 ∨ y % 400 = 0)) :
    Calls Tryd.prog 58 #[.int .i64 y] w fun e w' => e = .returned (.bool false) ∧ w = w' := by
  by_cases p : 0 ≤ y
  · by_cases c : y % 4 = 0
    · have t4 : (y % 4 == 0) = true := beq_iff_eq.2 c
      have t1 : (y % 100 != 0) = false := by rw [bne_eq_false_iff_eq]; omega
      have t3 : (y % 400 == 0) = false := by rw [beq_eq_false_iff_ne]; omega
      clear c h
      go_enter Tryd.func58, Tryd.ntmps58
      go_wp2
      go_ret
      exact ⟨rfl, rfl⟩
    · have t4 : (y % 4 == 0) = false := by simpa using c
      have t3 : (y % 400 == 0) = false := by rw [beq_eq_false_iff_ne]; omega
      clear c h
      go_enter Tryd.func58, Tryd.ntmps58
      go_wp2
      go_ret
      exact ⟨rfl, rfl⟩
  · have h4 : (y.tmod 400 == 0) = false := by rw [beq_eq_false_iff_ne]; exact mt (tmod400 y).1 (by omega)
    by_cases c : y % 4 = 0
    · have t4 : (y.tmod 4 == 0) = true := beq_iff_eq.2 ((tmod4 y).2 c)
      have t1 : (y.tmod 100 != 0) = false := by rw [bne_eq_false_iff_eq]; exact (tmod100 y).2 (by omega)
      clear c h
      go_enter Tryd.func58, Tryd.ntmps58
      go_wp2
      go_ret
      exact ⟨rfl, rfl⟩
    · have t4 : (y.tmod 4 == 0) = false := by rw [beq_eq_false_iff_ne]; exact mt (tmod4 y).1 c
      clear c h
      go_enter Tryd.func58, Tryd.ntmps58
      go_wp2
      go_ret
      exact ⟨rfl, rfl⟩

theorem leap_any (y : Int) (w : World) :
    Calls Tryd.prog 58 #[.int .i64 y] w fun e w' => e = .returned (.bool (lpB y)) ∧ w = w' := by
  by_cases h : y % 4 = 0 ∧ y % 100 ≠ 0 ∨ y % 400 = 0
  · rw [lpB_t h]; exact leap_t y w h
  · rw [lpB_f h]; exact leap_f y w h
theorem leapR_t (y : Int) (w : World) (h : y % 4 = 0 ∧ y % 100 ≠ 0 ∨ y % 400 = 0) :
    Calls Tryd.prog 60 #[.int .i64 y] w fun e w' => e = .returned (.bool true) ∧ w = w' := by
  have c4 : y % 4 = 0 := by omega
  have t4 : (y % 4 == 0) = true := beq_iff_eq.2 c4
  have t4' : (y.tmod 4 == 0) = true := beq_iff_eq.2 ((tmod4 y).2 c4)
  clear c4
  by_cases p : 0 ≤ y
  · by_cases c : y % 100 = 0
    · have t1 : (y % 100 != 0) = false := by simpa using c
      have t3 : (y % 400 == 0) = true := by rw [beq_iff_eq]; omega
      clear c h
      go_enter Tryd.func60, Tryd.ntmps60
      go_wp2
      go_ret
      exact ⟨rfl, rfl⟩
    · have t1 : (y % 100 != 0) = true := by simpa using c
      clear c h
      go_enter Tryd.func60, Tryd.ntmps60
      go_wp2
      go_ret
      exact ⟨rfl, rfl⟩
  · by_cases c : y % 100 = 0
    · have t1 : (y.tmod 100 != 0) = false := by simpa using (tmod100 y).2 c
      have t3 : (y.tmod 400 == 0) = true := beq_iff_eq.2 ((tmod400 y).2 (by omega))
      clear c h
      go_enter Tryd.func60, Tryd.ntmps60
      go_wp2
      go_ret
      exact ⟨rfl, rfl⟩
    · have t1 : (y.tmod 100 != 0) = true := by simpa using mt (tmod100 y).1 c
      clear c h
      go_enter Tryd.func60, Tryd.ntmps60
      go_wp2
      go_ret
      exact ⟨rfl, rfl⟩

theorem leapR_f (y : Int) (w : World) (h : ¬ (y % 4 = 0 ∧ y % 100 ≠ 0 ∨ y % 400 = 0)) :
    Calls Tryd.prog 60 #[.int .i64 y] w fun e w' => e = .returned (.bool false) ∧ w = w' := by
  by_cases p : 0 ≤ y
  · by_cases c : y % 4 = 0
    · have t4 : (y % 4 == 0) = true := beq_iff_eq.2 c
      have t1 : (y % 100 != 0) = false := by rw [bne_eq_false_iff_eq]; omega
      have t3 : (y % 400 == 0) = false := by rw [beq_eq_false_iff_ne]; omega
      clear c h
      go_enter Tryd.func60, Tryd.ntmps60
      go_wp2
      go_ret
      exact ⟨rfl, rfl⟩
    · have t4 : (y % 4 == 0) = false := by simpa using c
      have t3 : (y % 400 == 0) = false := by rw [beq_eq_false_iff_ne]; omega
      clear c h
      go_enter Tryd.func60, Tryd.ntmps60
      go_wp2
      go_ret
      exact ⟨rfl, rfl⟩
  · have h4 : (y.tmod 400 == 0) = false := by rw [beq_eq_false_iff_ne]; exact mt (tmod400 y).1 (by omega)
    by_cases c : y % 4 = 0
    · have t4 : (y.tmod 4 == 0) = true := beq_iff_eq.2 ((tmod4 y).2 c)
      have t1 : (y.tmod 100 != 0) = false := by rw [bne_eq_false_iff_eq]; exact (tmod100 y).2 (by omega)
      clear c h
      go_enter Tryd.func60, Tryd.ntmps60
      go_wp2
      go_ret
      exact ⟨rfl, rfl⟩
    · have t4 : (y.tmod 4 == 0) = false := by rw [beq_eq_false_iff_ne]; exact mt (tmod4 y).1 c
      clear c h
      go_enter Tryd.func60, Tryd.ntmps60
      go_wp2
      go_ret
      exact ⟨rfl, rfl⟩

theorem leapR_any (y : Int) (w : World) :
    Calls Tryd.prog 60 #[.int .i64 y] w fun e w' => e = .returned (.bool (lpB y)) ∧ w = w' := by
  by_cases h : y % 4 = 0 ∧ y % 100 ≠ 0 ∨ y % 400 = 0
  · rw [lpB_t h]; exact leapR_t y w h
  · rw [lpB_f h]; exact leapR_f y w h

theorem leaps_any (y : Int) (w : World) (h0 : 1 ≤ y) (h1 : y ≤ 20000) :
    Calls Tryd.prog 57 #[.int .i64 y] w fun e w' => e = .returned (.int .i64 (Civ.lps y)) ∧ w = w' := by
  go_enter Tryd.func57, Tryd.ntmps57
  go_wp2
  go_ret
  exact ⟨rfl, rfl⟩
theorem leapsR_any (y : Int) (w : World) (h0 : 0 ≤ y) (h1 : y ≤ 20000) :
    Calls Tryd.prog 59 #[.int .i64 y] w fun e w' => e = .returned (.int .i64 (Civ.lps (y + 1))) ∧ w = w' := by
  go_enter Tryd.func59, Tryd.ntmps59
  go_wp2
  go_ret
  exact ⟨ret_int (by unfold Civ.lps; omega), rfl⟩
theorem lps_bd {y : Int} (h0 : 1 ≤ y) (h1 : y ≤ 20000) : 0 ≤ Civ.lps y ∧ Civ.lps y ≤ 5000 := by unfold Civ.lps; omega
theorem leaps_1970 (w : World) : Calls Tryd.prog 57 #[.int .i64 1970] w fun e w' => e = .returned (.int .i64 477) ∧ w = w' :=
  leaps_any 1970 w (by decide) (by decide)
theorem leapsR_1969 (w : World) : Calls Tryd.prog 59 #[.int .i64 1969] w fun e w' => e = .returned (.int .i64 477) ∧ w = w' :=
  leapsR_any 1969 w (by decide) (by decide)
theorem leapsR_pred (y : Int) (w : World) (h0 : 1 ≤ y) (h1 : y ≤ 20000) :
    Calls Tryd.prog 59 #[.int .i64 (y - 1)] w fun e w' => e = .returned (.int .i64 (Civ.lps y)) ∧ w = w' := by
  have h := leapsR_any (y - 1) w (by omega) (by omega)
  rwa [show y - 1 + 1 = y by omega] at h
theorem before_any (y : Int) (w : World) (h0 : 1970 ≤ y) (h1 : y ≤ 20000) :
    Calls Tryd.prog 53 #[.int .i64 y] w fun e w' => e = .returned (.int .i64 (Civ.dby y)) ∧ w = w' := by
  obtain ⟨b0, b1⟩ := lps_bd (y := y) (by omega) h1
  go_enter Tryd.func53, Tryd.ntmps53
  go_wp2_with fail
  refine (leaps_any _ _ (by omega) (by omega)).mono ?_
  rintro e w' ⟨rfl, rfl⟩
  go_wp2_with fail
  refine (leaps_1970 _).mono ?_
  rintro e w' ⟨rfl, rfl⟩
  go_wp2_with fail
  go_ret
  exact ⟨rfl, rfl⟩
theorem beforeR_any (y : Int) (w : World) (h0 : 1970 ≤ y) (h1 : y ≤ 20000) :
    Calls Tryd.prog 55 #[.int .i64 y] w fun e w' => e = .returned (.int .i64 (Civ.dby y)) ∧ w = w' := by
  obtain ⟨b0, b1⟩ := lps_bd (y := y) (by omega) h1
  go_enter Tryd.func55, Tryd.ntmps55
  go_wp2_with fail
  refine (leapsR_pred _ _ (by omega) (by omega)).mono ?_
  rintro e w' ⟨rfl, rfl⟩
  go_wp2_with fail
  refine (leapsR_1969 _).mono ?_
  rintro e w' ⟨rfl, rfl⟩
  go_wp2_with fail
  go_ret
  exact ⟨rfl, rfl⟩
end Go.Proofs.YtbnhbfemoaokkaaDoor
