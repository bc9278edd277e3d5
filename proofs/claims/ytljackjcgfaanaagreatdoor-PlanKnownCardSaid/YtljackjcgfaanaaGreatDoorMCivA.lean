/- Contracts of Leap, leaps and before, of package civil and of the document's: what each call returns; the world stays. Contracts of Length, of package civil and of the document's: the length of each month from 1970 to 9999, and the error otherwise. The table of package civil is assumed as the program lays it. Contracts of Date, of package civil and of the document's: each number of days from 0 to 2932896 gives the one valid date with these days, any other an error. -/
import Derived.Test.YtljackjcgfaanaaGreatDoorProg
import Derived.Test.YtljackjcgfaanaaGreatDoorGCivMath
import Derived.WalkKit
import Derived.ProofKit
import Derived.Lib.Hide
import Derived.Deep.QuietTactic
import Derived.BigQuiet
import Derived.ChangeOld
/- Contracts of Leap, leaps and before, of package civil and of the document's: what each call returns; the world stays. -/
namespace Go.Proofs.YtljackjcgfaanaaGreatDoor.Cv
open Go.RowKit

theorem ret_int {k : IntKind} {a b : Int} (h : a = b) : Ending.returned (.int k a) = .returned (.int k b) := by rw [h]

def lpB (y : Int) : Bool := decide (y % 4 = 0 ∧ y % 100 ≠ 0 ∨ y % 400 = 0)
theorem lpB_t {y : Int} (h : y % 4 = 0 ∧ y % 100 ≠ 0 ∨ y % 400 = 0) : lpB y = true := by simpa [lpB] using h
theorem lpB_f {y : Int} (h : ¬ (y % 4 = 0 ∧ y % 100 ≠ 0 ∨ y % 400 = 0)) : lpB y = false := by simpa [lpB] using h
theorem lpB_lp (y : Int) : Civ.lp y = if lpB y = true then 1 else 0 := by
  unfold Civ.lp lpB; simp
theorem tmod4 (y : Int) : y.tmod 4 = 0 ↔ y % 4 = 0 := by
  rw [← Int.dvd_iff_tmod_eq_zero, ← Int.dvd_iff_emod_eq_zero]
theorem tmod100 (y : Int) : y.tmod 100 = 0 ↔ y % 100 = 0 := by
  rw [← Int.dvd_iff_tmod_eq_zero, ← Int.dvd_iff_emod_eq_zero]
theorem tmod400 (y : Int) : y.tmod 400 = 0 ↔ y % 400 = 0 := by
  rw [← Int.dvd_iff_tmod_eq_zero, ← Int.dvd_iff_emod_eq_zero]

theorem leap_t (y : Int) (w : World) (h : y % 4 = 0 ∧ y % 100 ≠ 0 ∨ y % 400 = 0) :
    Calls Tryz.prog 161 #[.int .i64 y] w fun e w' => e = .returned (.bool true) ∧ w = w' := by
  have c4 : y % 4 = 0 := by omega
  have t4 : (y % 4 == 0) = true := beq_iff_eq.2 c4
  have t4' : (y.tmod 4 == 0) = true := beq_iff_eq.2 ((tmod4 y).2 c4)
  clear c4
  by_cases p : 0 ≤ y
  · by_cases c : y % 100 = 0
    · have t1 : (y % 100 != 0) = false := by simpa using c
      have t3 : (y % 400 == 0) = true := by rw [beq_iff_eq]; omega
      clear c h
      go_enter Tryz.func161, Tryz.ntmps161
      go_wp2
      go_ret
      exact ⟨rfl, rfl⟩
    · have t1 : (y % 100 != 0) = true := by simpa using c
      clear c h
      go_enter Tryz.func161, Tryz.ntmps161
      go_wp2
      go_ret
      exact ⟨rfl, rfl⟩
  · by_cases c : y % 100 = 0
    · have t1 : (y.tmod 100 != 0) = false := by simpa using (tmod100 y).2 c
      have t3 : (y.tmod 400 == 0) = true := beq_iff_eq.2 ((tmod400 y).2 (by omega))
      clear c h
      go_enter Tryz.func161, Tryz.ntmps161
      go_wp2
      go_ret
      exact ⟨rfl, rfl⟩
    · have t1 : (y.tmod 100 != 0) = true := by simpa using mt (tmod100 y).1 c
      clear c h
      go_enter Tryz.func161, Tryz.ntmps161
      go_wp2
      go_ret
      exact ⟨rfl, rfl⟩

theorem leap_f (y : Int) (w : World) (h : ¬ (y % 4 = 0 ∧ y % 100 ≠ 0 ∨ y % 400 = 0)) :
    Calls Tryz.prog 161 #[.int .i64 y] w fun e w' => e = .returned (.bool false) ∧ w = w' := by
  by_cases p : 0 ≤ y
  · by_cases c : y % 4 = 0
    · have t4 : (y % 4 == 0) = true := beq_iff_eq.2 c
      have t1 : (y % 100 != 0) = false := by rw [bne_eq_false_iff_eq]; omega
      have t3 : (y % 400 == 0) = false := by rw [beq_eq_false_iff_ne]; omega
      clear c h
      go_enter Tryz.func161, Tryz.ntmps161
      go_wp2
      go_ret
      exact ⟨rfl, rfl⟩
    · have t4 : (y % 4 == 0) = false := by simpa using c
      have t3 : (y % 400 == 0) = false := by rw [beq_eq_false_iff_ne]; omega
      clear c h
      go_enter Tryz.func161, Tryz.ntmps161
      go_wp2
      go_ret
      exact ⟨rfl, rfl⟩
  · have h4 : (y.tmod 400 == 0) = false := by rw [beq_eq_false_iff_ne]; exact mt (tmod400 y).1 (by omega)
    by_cases c : y % 4 = 0
    · have t4 : (y.tmod 4 == 0) = true := beq_iff_eq.2 ((tmod4 y).2 c)
      have t1 : (y.tmod 100 != 0) = false := by rw [bne_eq_false_iff_eq]; exact (tmod100 y).2 (by omega)
      clear c h
      go_enter Tryz.func161, Tryz.ntmps161
      go_wp2
      go_ret
      exact ⟨rfl, rfl⟩
    · have t4 : (y.tmod 4 == 0) = false := by rw [beq_eq_false_iff_ne]; exact mt (tmod4 y).1 c
      clear c h
      go_enter Tryz.func161, Tryz.ntmps161
      go_wp2
      go_ret
      exact ⟨rfl, rfl⟩

theorem leapR_t (y : Int) (w : World) (h : y % 4 = 0 ∧ y % 100 ≠ 0 ∨ y % 400 = 0) :
    Calls Tryz.prog 155 #[.int .i64 y] w fun e w' => e = .returned (.bool true) ∧ w = w' := by
  have c4 : y % 4 = 0 := by omega
  have t4 : (y % 4 == 0) = true := beq_iff_eq.2 c4
  have t4' : (y.tmod 4 == 0) = true := beq_iff_eq.2 ((tmod4 y).2 c4)
  clear c4
  by_cases p : 0 ≤ y
  · by_cases c : y % 100 = 0
    · have t1 : (y % 100 != 0) = false := by simpa using c
      have t3 : (y % 400 == 0) = true := by rw [beq_iff_eq]; omega
      clear c h
      go_enter Tryz.func155, Tryz.ntmps155
      go_wp2
      go_ret
      exact ⟨rfl, rfl⟩
    · have t1 : (y % 100 != 0) = true := by simpa using c
      clear c h
      go_enter Tryz.func155, Tryz.ntmps155
      go_wp2
      go_ret
      exact ⟨rfl, rfl⟩
  · by_cases c : y % 100 = 0
    · have t1 : (y.tmod 100 != 0) = false := by simpa using (tmod100 y).2 c
      have t3 : (y.tmod 400 == 0) = true := beq_iff_eq.2 ((tmod400 y).2 (by omega))
      clear c h
      go_enter Tryz.func155, Tryz.ntmps155
      go_wp2
      go_ret
      exact ⟨rfl, rfl⟩
    · have t1 : (y.tmod 100 != 0) = true := by simpa using mt (tmod100 y).1 c
      clear c h
      go_enter Tryz.func155, Tryz.ntmps155
      go_wp2
      go_ret
      exact ⟨rfl, rfl⟩

theorem leapR_f (y : Int) (w : World) (h : ¬ (y % 4 = 0 ∧ y % 100 ≠ 0 ∨ y % 400 = 0)) :
    Calls Tryz.prog 155 #[.int .i64 y] w fun e w' => e = .returned (.bool false) ∧ w = w' := by
  by_cases p : 0 ≤ y
  · by_cases c : y % 4 = 0
    · have t4 : (y % 4 == 0) = true := beq_iff_eq.2 c
      have t1 : (y % 100 != 0) = false := by rw [bne_eq_false_iff_eq]; omega
      have t3 : (y % 400 == 0) = false := by rw [beq_eq_false_iff_ne]; omega
      clear c h
      go_enter Tryz.func155, Tryz.ntmps155
      go_wp2
      go_ret
      exact ⟨rfl, rfl⟩
    · have t4 : (y % 4 == 0) = false := by simpa using c
      have t3 : (y % 400 == 0) = false := by rw [beq_eq_false_iff_ne]; omega
      clear c h
      go_enter Tryz.func155, Tryz.ntmps155
      go_wp2
      go_ret
      exact ⟨rfl, rfl⟩
  · have h4 : (y.tmod 400 == 0) = false := by rw [beq_eq_false_iff_ne]; exact mt (tmod400 y).1 (by omega)
    by_cases c : y % 4 = 0
    · have t4 : (y.tmod 4 == 0) = true := beq_iff_eq.2 ((tmod4 y).2 c)
      have t1 : (y.tmod 100 != 0) = false := by rw [bne_eq_false_iff_eq]; exact (tmod100 y).2 (by omega)
      clear c h
      go_enter Tryz.func155, Tryz.ntmps155
      go_wp2
      go_ret
      exact ⟨rfl, rfl⟩
    · have t4 : (y.tmod 4 == 0) = false := by rw [beq_eq_false_iff_ne]; exact mt (tmod4 y).1 c
      clear c h
      go_enter Tryz.func155, Tryz.ntmps155
      go_wp2
      go_ret
      exact ⟨rfl, rfl⟩

theorem leaps_any (y : Int) (w : World) (h0 : 1 ≤ y) (h1 : y ≤ 20000) :
    Calls Tryz.prog 172 #[.int .i64 y] w fun e w' => e = .returned (.int .i64 (Civ.lps y)) ∧ w = w' := by
  go_enter Tryz.func172, Tryz.ntmps172
  go_wp2
  go_ret
  exact ⟨rfl, rfl⟩
theorem leapsR_any (y : Int) (w : World) (h0 : 0 ≤ y) (h1 : y ≤ 20000) :
    Calls Tryz.prog 156 #[.int .i64 y] w fun e w' => e = .returned (.int .i64 (Civ.lps (y + 1))) ∧ w = w' := by
  go_enter Tryz.func156, Tryz.ntmps156
  go_wp2
  go_ret
  exact ⟨ret_int (by unfold Civ.lps; omega), rfl⟩
theorem lps_bd {y : Int} (h0 : 1 ≤ y) (h1 : y ≤ 20000) : 0 ≤ Civ.lps y ∧ Civ.lps y ≤ 5000 := by unfold Civ.lps; omega
theorem leaps_1970 (w : World) : Calls Tryz.prog 172 #[.int .i64 1970] w fun e w' => e = .returned (.int .i64 477) ∧ w = w' :=
  leaps_any 1970 w (by decide) (by decide)
theorem leapsR_1969 (w : World) : Calls Tryz.prog 156 #[.int .i64 1969] w fun e w' => e = .returned (.int .i64 477) ∧ w = w' :=
  leapsR_any 1969 w (by decide) (by decide)
theorem leapsR_pred (y : Int) (w : World) (h0 : 1 ≤ y) (h1 : y ≤ 20000) :
    Calls Tryz.prog 156 #[.int .i64 (y - 1)] w fun e w' => e = .returned (.int .i64 (Civ.lps y)) ∧ w = w' := by
  have h := leapsR_any (y - 1) w (by omega) (by omega)
  rwa [show y - 1 + 1 = y by omega] at h
theorem before_any (y : Int) (w : World) (h0 : 1970 ≤ y) (h1 : y ≤ 20000) :
    Calls Tryz.prog 160 #[.int .i64 y] w fun e w' => e = .returned (.int .i64 (Civ.dby y)) ∧ w = w' := by
  obtain ⟨b0, b1⟩ := lps_bd (y := y) (by omega) h1
  go_enter Tryz.func160, Tryz.ntmps160
  go_wp2_with fail
  refine (leaps_any _ _ (by omega) (by omega)).mono ?_
  rintro e w' ⟨rfl, rfl⟩
  go_wp2_with fail
  refine (leaps_1970 _).mono ?_
  rintro e w' ⟨rfl, rfl⟩
  go_wp2_with fail
  go_ret
  exact ⟨rfl, rfl⟩
theorem beforeR_any (y : Int) (w : World) (h0 : 1970 ≤ y) (h1 : y ≤ 20000) :
    Calls Tryz.prog 139 #[.int .i64 y] w fun e w' => e = .returned (.int .i64 (Civ.dby y)) ∧ w = w' := by
  obtain ⟨b0, b1⟩ := lps_bd (y := y) (by omega) h1
  go_enter Tryz.func139, Tryz.ntmps139
  go_wp2_with fail
  refine (leapsR_pred _ _ (by omega) (by omega)).mono ?_
  rintro e w' ⟨rfl, rfl⟩
  go_wp2_with fail
  refine (leapsR_1969 _).mono ?_
  rintro e w' ⟨rfl, rfl⟩
  go_wp2_with fail
  go_ret
  exact ⟨rfl, rfl⟩
end Go.Proofs.YtljackjcgfaanaaGreatDoor.Cv
/- Contracts of Length, of package civil and of the document's: the length of each month from 1970 to 9999, and the error otherwise. The table of package civil is assumed as the program lays it. -/
namespace Go.Proofs.YtljackjcgfaanaaGreatDoor.Cv
open Go.ChangeShapes Go.RowKit

/-- the table of the lengths, as the program lays it -/
structure Lay (w : World) : Prop where
  c0 : w.cell? ⟨0, 0, none⟩ = some (.int .i64 31)
  c1 : w.cell? ⟨0, 1, none⟩ = some (.int .i64 28)
  c2 : w.cell? ⟨0, 2, none⟩ = some (.int .i64 31)
  c3 : w.cell? ⟨0, 3, none⟩ = some (.int .i64 30)
  c4 : w.cell? ⟨0, 4, none⟩ = some (.int .i64 31)
  c5 : w.cell? ⟨0, 5, none⟩ = some (.int .i64 30)
  c6 : w.cell? ⟨0, 6, none⟩ = some (.int .i64 31)
  c7 : w.cell? ⟨0, 7, none⟩ = some (.int .i64 31)
  c8 : w.cell? ⟨0, 8, none⟩ = some (.int .i64 30)
  c9 : w.cell? ⟨0, 9, none⟩ = some (.int .i64 31)
  c10 : w.cell? ⟨0, 10, none⟩ = some (.int .i64 30)
  c11 : w.cell? ⟨0, 11, none⟩ = some (.int .i64 31)
  lt : 0 < w.heap.size

theorem length_no (y m : Int) (w : World) (h : ¬ (1970 ≤ y ∧ y ≤ 9999 ∧ 1 ≤ m ∧ m ≤ 12)) :
    Calls Tryz.prog 146 #[.int .i64 y, .int .i64 m] w fun e w' => e = .returned (.tuple #[.int .i64 0, .int .i64 2]) ∧ w = w' := by
  by_cases a : y < 1970
  · clear h
    go_enter Tryz.func146, Tryz.ntmps146
    go_wp2
    go_ret2
    exact ⟨rfl, rfl⟩
  · by_cases b : 9999 < y
    · clear h
      go_enter Tryz.func146, Tryz.ntmps146
      go_wp2
      go_ret2
      exact ⟨rfl, rfl⟩
    · by_cases c : m < 1
      · clear h
        go_enter Tryz.func146, Tryz.ntmps146
        go_wp2
        go_ret2
        exact ⟨rfl, rfl⟩
      · have d : 12 < m := by omega
        clear h
        go_enter Tryz.func146, Tryz.ntmps146
        go_wp2
        go_ret2
        exact ⟨rfl, rfl⟩
theorem dim_feb (y : Int) : Civ.dim y 2 = 28 + Civ.lp y := by simp [Civ.dim]

theorem length_1 (y : Int) (w : World) (y0 : 1970 ≤ y) (y1 : y ≤ 9999) (hc : w.cell? ⟨0, 0, none⟩ = some (.int .i64 31)) :
    Calls Tryz.prog 146 #[.int .i64 y, .int .i64 1] w fun e w' => e = .returned (.tuple #[.int .i64 31, .int .i64 0]) ∧ w = w' := by
  go_enter Tryz.func146, Tryz.ntmps146
  go_wp2
  go_ret2
  exact ⟨rfl, rfl⟩
theorem length_3 (y : Int) (w : World) (y0 : 1970 ≤ y) (y1 : y ≤ 9999) (hc : w.cell? ⟨0, 2, none⟩ = some (.int .i64 31)) :
    Calls Tryz.prog 146 #[.int .i64 y, .int .i64 3] w fun e w' => e = .returned (.tuple #[.int .i64 31, .int .i64 0]) ∧ w = w' := by
  go_enter Tryz.func146, Tryz.ntmps146
  go_wp2
  go_ret2
  exact ⟨rfl, rfl⟩
theorem length_4 (y : Int) (w : World) (y0 : 1970 ≤ y) (y1 : y ≤ 9999) (hc : w.cell? ⟨0, 3, none⟩ = some (.int .i64 30)) :
    Calls Tryz.prog 146 #[.int .i64 y, .int .i64 4] w fun e w' => e = .returned (.tuple #[.int .i64 30, .int .i64 0]) ∧ w = w' := by
  go_enter Tryz.func146, Tryz.ntmps146
  go_wp2
  go_ret2
  exact ⟨rfl, rfl⟩
theorem length_5 (y : Int) (w : World) (y0 : 1970 ≤ y) (y1 : y ≤ 9999) (hc : w.cell? ⟨0, 4, none⟩ = some (.int .i64 31)) :
    Calls Tryz.prog 146 #[.int .i64 y, .int .i64 5] w fun e w' => e = .returned (.tuple #[.int .i64 31, .int .i64 0]) ∧ w = w' := by
  go_enter Tryz.func146, Tryz.ntmps146
  go_wp2
  go_ret2
  exact ⟨rfl, rfl⟩
theorem length_6 (y : Int) (w : World) (y0 : 1970 ≤ y) (y1 : y ≤ 9999) (hc : w.cell? ⟨0, 5, none⟩ = some (.int .i64 30)) :
    Calls Tryz.prog 146 #[.int .i64 y, .int .i64 6] w fun e w' => e = .returned (.tuple #[.int .i64 30, .int .i64 0]) ∧ w = w' := by
  go_enter Tryz.func146, Tryz.ntmps146
  go_wp2
  go_ret2
  exact ⟨rfl, rfl⟩
theorem length_7 (y : Int) (w : World) (y0 : 1970 ≤ y) (y1 : y ≤ 9999) (hc : w.cell? ⟨0, 6, none⟩ = some (.int .i64 31)) :
    Calls Tryz.prog 146 #[.int .i64 y, .int .i64 7] w fun e w' => e = .returned (.tuple #[.int .i64 31, .int .i64 0]) ∧ w = w' := by
  go_enter Tryz.func146, Tryz.ntmps146
  go_wp2
  go_ret2
  exact ⟨rfl, rfl⟩
theorem length_8 (y : Int) (w : World) (y0 : 1970 ≤ y) (y1 : y ≤ 9999) (hc : w.cell? ⟨0, 7, none⟩ = some (.int .i64 31)) :
    Calls Tryz.prog 146 #[.int .i64 y, .int .i64 8] w fun e w' => e = .returned (.tuple #[.int .i64 31, .int .i64 0]) ∧ w = w' := by
  go_enter Tryz.func146, Tryz.ntmps146
  go_wp2
  go_ret2
  exact ⟨rfl, rfl⟩
theorem length_9 (y : Int) (w : World) (y0 : 1970 ≤ y) (y1 : y ≤ 9999) (hc : w.cell? ⟨0, 8, none⟩ = some (.int .i64 30)) :
    Calls Tryz.prog 146 #[.int .i64 y, .int .i64 9] w fun e w' => e = .returned (.tuple #[.int .i64 30, .int .i64 0]) ∧ w = w' := by
  go_enter Tryz.func146, Tryz.ntmps146
  go_wp2
  go_ret2
  exact ⟨rfl, rfl⟩
theorem length_10 (y : Int) (w : World) (y0 : 1970 ≤ y) (y1 : y ≤ 9999) (hc : w.cell? ⟨0, 9, none⟩ = some (.int .i64 31)) :
    Calls Tryz.prog 146 #[.int .i64 y, .int .i64 10] w fun e w' => e = .returned (.tuple #[.int .i64 31, .int .i64 0]) ∧ w = w' := by
  go_enter Tryz.func146, Tryz.ntmps146
  go_wp2
  go_ret2
  exact ⟨rfl, rfl⟩
theorem length_11 (y : Int) (w : World) (y0 : 1970 ≤ y) (y1 : y ≤ 9999) (hc : w.cell? ⟨0, 10, none⟩ = some (.int .i64 30)) :
    Calls Tryz.prog 146 #[.int .i64 y, .int .i64 11] w fun e w' => e = .returned (.tuple #[.int .i64 30, .int .i64 0]) ∧ w = w' := by
  go_enter Tryz.func146, Tryz.ntmps146
  go_wp2
  go_ret2
  exact ⟨rfl, rfl⟩
theorem length_12 (y : Int) (w : World) (y0 : 1970 ≤ y) (y1 : y ≤ 9999) (hc : w.cell? ⟨0, 11, none⟩ = some (.int .i64 31)) :
    Calls Tryz.prog 146 #[.int .i64 y, .int .i64 12] w fun e w' => e = .returned (.tuple #[.int .i64 31, .int .i64 0]) ∧ w = w' := by
  go_enter Tryz.func146, Tryz.ntmps146
  go_wp2
  go_ret2
  exact ⟨rfl, rfl⟩
theorem length_2 (y : Int) (w : World) (y0 : 1970 ≤ y) (y1 : y ≤ 9999) (hc : w.cell? ⟨0, 1, none⟩ = some (.int .i64 28)) :
    Calls Tryz.prog 146 #[.int .i64 y, .int .i64 2] w fun e w' => e = .returned (.tuple #[.int .i64 (28 + Civ.lp y), .int .i64 0]) ∧ w = w' := by
  rw [lpB_lp]
  by_cases h : y % 4 = 0 ∧ y % 100 ≠ 0 ∨ y % 400 = 0
  · rw [lpB_t h, if_pos rfl]
    have L := Lib.hid (leap_t y w h)
    clear h
    go_enter Tryz.func146, Tryz.ntmps146
    go_wp2_with (go_at_call 161; refine L.out.mono ?_; rintro e w' ⟨rfl, rfl⟩)
    go_ret2
    exact ⟨rfl, rfl⟩
  · rw [lpB_f h, if_neg (by simp)]
    have L := Lib.hid (leap_f y w h)
    clear h
    go_enter Tryz.func146, Tryz.ntmps146
    go_wp2_with (go_at_call 161; refine L.out.mono ?_; rintro e w' ⟨rfl, rfl⟩)
    go_ret2
    exact ⟨rfl, rfl⟩
theorem length_yes (y m : Int) (w : World) (L : Lay w) (y0 : 1970 ≤ y) (y1 : y ≤ 9999) (m0 : 1 ≤ m) (m1 : m ≤ 12) :
    Calls Tryz.prog 146 #[.int .i64 y, .int .i64 m] w fun e w' => e = .returned (.tuple #[.int .i64 (Civ.dim y m), .int .i64 0]) ∧ w = w' := by
  rcases Civ.cases12 m0 m1 with rfl | rfl | rfl | rfl | rfl | rfl | rfl | rfl | rfl | rfl | rfl | rfl
  · exact length_1 y w y0 y1 L.c0
  · rw [dim_feb]; exact length_2 y w y0 y1 L.c1
  · exact length_3 y w y0 y1 L.c2
  · exact length_4 y w y0 y1 L.c3
  · exact length_5 y w y0 y1 L.c4
  · exact length_6 y w y0 y1 L.c5
  · exact length_7 y w y0 y1 L.c6
  · exact length_8 y w y0 y1 L.c7
  · exact length_9 y w y0 y1 L.c8
  · exact length_10 y w y0 y1 L.c9
  · exact length_11 y w y0 y1 L.c10
  · exact length_12 y w y0 y1 L.c11

theorem lengthR_1 (y : Int) (w : World) (y0 : 1970 ≤ y) (y1 : y ≤ 9999) :
    Calls Tryz.prog 138 #[.int .i64 y, .int .i64 1] w fun e w' => e = .returned (.tuple #[.int .i64 31, .int .i64 0]) ∧ Below w.heap.size w w' := by
  go_enter Tryz.func138, Tryz.ntmps138
  go_wp2
  go_ret2
  exact ⟨rfl, (Below.refl _ _).alloc (Nat.le_refl _) _⟩
theorem lengthR_3 (y : Int) (w : World) (y0 : 1970 ≤ y) (y1 : y ≤ 9999) :
    Calls Tryz.prog 138 #[.int .i64 y, .int .i64 3] w fun e w' => e = .returned (.tuple #[.int .i64 31, .int .i64 0]) ∧ Below w.heap.size w w' := by
  go_enter Tryz.func138, Tryz.ntmps138
  go_wp2
  go_ret2
  exact ⟨rfl, (Below.refl _ _).alloc (Nat.le_refl _) _⟩
theorem lengthR_4 (y : Int) (w : World) (y0 : 1970 ≤ y) (y1 : y ≤ 9999) :
    Calls Tryz.prog 138 #[.int .i64 y, .int .i64 4] w fun e w' => e = .returned (.tuple #[.int .i64 30, .int .i64 0]) ∧ Below w.heap.size w w' := by
  go_enter Tryz.func138, Tryz.ntmps138
  go_wp2
  go_ret2
  exact ⟨rfl, (Below.refl _ _).alloc (Nat.le_refl _) _⟩
theorem lengthR_5 (y : Int) (w : World) (y0 : 1970 ≤ y) (y1 : y ≤ 9999) :
    Calls Tryz.prog 138 #[.int .i64 y, .int .i64 5] w fun e w' => e = .returned (.tuple #[.int .i64 31, .int .i64 0]) ∧ Below w.heap.size w w' := by
  go_enter Tryz.func138, Tryz.ntmps138
  go_wp2
  go_ret2
  exact ⟨rfl, (Below.refl _ _).alloc (Nat.le_refl _) _⟩
theorem lengthR_6 (y : Int) (w : World) (y0 : 1970 ≤ y) (y1 : y ≤ 9999) :
    Calls Tryz.prog 138 #[.int .i64 y, .int .i64 6] w fun e w' => e = .returned (.tuple #[.int .i64 30, .int .i64 0]) ∧ Below w.heap.size w w' := by
  go_enter Tryz.func138, Tryz.ntmps138
  go_wp2
  go_ret2
  exact ⟨rfl, (Below.refl _ _).alloc (Nat.le_refl _) _⟩
theorem lengthR_7 (y : Int) (w : World) (y0 : 1970 ≤ y) (y1 : y ≤ 9999) :
    Calls Tryz.prog 138 #[.int .i64 y, .int .i64 7] w fun e w' => e = .returned (.tuple #[.int .i64 31, .int .i64 0]) ∧ Below w.heap.size w w' := by
  go_enter Tryz.func138, Tryz.ntmps138
  go_wp2
  go_ret2
  exact ⟨rfl, (Below.refl _ _).alloc (Nat.le_refl _) _⟩
theorem lengthR_8 (y : Int) (w : World) (y0 : 1970 ≤ y) (y1 : y ≤ 9999) :
    Calls Tryz.prog 138 #[.int .i64 y, .int .i64 8] w fun e w' => e = .returned (.tuple #[.int .i64 31, .int .i64 0]) ∧ Below w.heap.size w w' := by
  go_enter Tryz.func138, Tryz.ntmps138
  go_wp2
  go_ret2
  exact ⟨rfl, (Below.refl _ _).alloc (Nat.le_refl _) _⟩
theorem lengthR_9 (y : Int) (w : World) (y0 : 1970 ≤ y) (y1 : y ≤ 9999) :
    Calls Tryz.prog 138 #[.int .i64 y, .int .i64 9] w fun e w' => e = .returned (.tuple #[.int .i64 30, .int .i64 0]) ∧ Below w.heap.size w w' := by
  go_enter Tryz.func138, Tryz.ntmps138
  go_wp2
  go_ret2
  exact ⟨rfl, (Below.refl _ _).alloc (Nat.le_refl _) _⟩
theorem lengthR_10 (y : Int) (w : World) (y0 : 1970 ≤ y) (y1 : y ≤ 9999) :
    Calls Tryz.prog 138 #[.int .i64 y, .int .i64 10] w fun e w' => e = .returned (.tuple #[.int .i64 31, .int .i64 0]) ∧ Below w.heap.size w w' := by
  go_enter Tryz.func138, Tryz.ntmps138
  go_wp2
  go_ret2
  exact ⟨rfl, (Below.refl _ _).alloc (Nat.le_refl _) _⟩
theorem lengthR_11 (y : Int) (w : World) (y0 : 1970 ≤ y) (y1 : y ≤ 9999) :
    Calls Tryz.prog 138 #[.int .i64 y, .int .i64 11] w fun e w' => e = .returned (.tuple #[.int .i64 30, .int .i64 0]) ∧ Below w.heap.size w w' := by
  go_enter Tryz.func138, Tryz.ntmps138
  go_wp2
  go_ret2
  exact ⟨rfl, (Below.refl _ _).alloc (Nat.le_refl _) _⟩
theorem lengthR_12 (y : Int) (w : World) (y0 : 1970 ≤ y) (y1 : y ≤ 9999) :
    Calls Tryz.prog 138 #[.int .i64 y, .int .i64 12] w fun e w' => e = .returned (.tuple #[.int .i64 31, .int .i64 0]) ∧ Below w.heap.size w w' := by
  go_enter Tryz.func138, Tryz.ntmps138
  go_wp2
  go_ret2
  exact ⟨rfl, (Below.refl _ _).alloc (Nat.le_refl _) _⟩
theorem lengthR_2 (y : Int) (w : World) (y0 : 1970 ≤ y) (y1 : y ≤ 9999) :
    Calls Tryz.prog 138 #[.int .i64 y, .int .i64 2] w fun e w' => e = .returned (.tuple #[.int .i64 (28 + Civ.lp y), .int .i64 0]) ∧ Below w.heap.size w w' := by
  rw [lpB_lp]
  by_cases h : y % 4 = 0 ∧ y % 100 ≠ 0 ∨ y % 400 = 0
  · rw [lpB_t h, if_pos rfl]
    have L := Lib.hid (leapR_t y w h)
    clear h
    go_enter Tryz.func138, Tryz.ntmps138
    go_wp2_with (go_at_call 155; refine L.out.mono ?_; rintro e w' ⟨rfl, rfl⟩)
    go_ret2
    exact ⟨rfl, Below.refl _ _⟩
  · rw [lpB_f h, if_neg (by simp)]
    have L := Lib.hid (leapR_f y w h)
    clear h
    go_enter Tryz.func138, Tryz.ntmps138
    go_wp2_with (go_at_call 155; refine L.out.mono ?_; rintro e w' ⟨rfl, rfl⟩)
    go_ret2
    exact ⟨rfl, (Below.refl _ _).alloc (Nat.le_refl _) _⟩
theorem lengthR_yes (y m : Int) (w : World) (y0 : 1970 ≤ y) (y1 : y ≤ 9999) (m0 : 1 ≤ m) (m1 : m ≤ 12) :
    Calls Tryz.prog 138 #[.int .i64 y, .int .i64 m] w fun e w' => e = .returned (.tuple #[.int .i64 (Civ.dim y m), .int .i64 0]) ∧ Below w.heap.size w w' := by
  rcases Civ.cases12 m0 m1 with rfl | rfl | rfl | rfl | rfl | rfl | rfl | rfl | rfl | rfl | rfl | rfl
  · exact lengthR_1 y w y0 y1
  · rw [dim_feb]; exact lengthR_2 y w y0 y1
  · exact lengthR_3 y w y0 y1
  · exact lengthR_4 y w y0 y1
  · exact lengthR_5 y w y0 y1
  · exact lengthR_6 y w y0 y1
  · exact lengthR_7 y w y0 y1
  · exact lengthR_8 y w y0 y1
  · exact lengthR_9 y w y0 y1
  · exact lengthR_10 y w y0 y1
  · exact lengthR_11 y w y0 y1
  · exact lengthR_12 y w y0 y1
end Go.Proofs.YtljackjcgfaanaaGreatDoor.Cv
/- Contracts of Date, of package civil and of the document's: each number of days from 0 to 2932896 gives the one valid date with these days, any other an error. -/
namespace Go.Proofs.YtljackjcgfaanaaGreatDoor.Cv
open Go.ChangeShapes Go.RowKit

theorem date_no (n : Int) (w : World) (h : n < 0 ∨ 2932896 < n) :
    Calls Tryz.prog 145 #[.int .i64 n] w fun e w' => e = .returned (.tuple #[.int .i64 0, .int .i64 0, .int .i64 0, .int .i64 14]) ∧ w = w' := by
  rcases h with h | h
  · go_enter Tryz.func145, Tryz.ntmps145
    go_wp2
    exact bodyPost_ret (v := .tuple #[.int .i64 0, .int .i64 0, .int .i64 0, .int .i64 14]) (by simp [results, Tryz.results145, go_sem]) rfl ⟨rfl, rfl⟩
  · go_enter Tryz.func145, Tryz.ntmps145
    go_wp2
    exact bodyPost_ret (v := .tuple #[.int .i64 0, .int .i64 0, .int .i64 0, .int .i64 14]) (by simp [results, Tryz.results145, go_sem]) rfl ⟨rfl, rfl⟩

theorem guess_up (n : Int) (h0 : 0 ≤ n) (h1 : n ≤ 2932896) : 1970 ≤ 1970 + n / 365 ∧ 1970 + n / 365 ≤ 10005 ∧ n < Civ.dby (1970 + n / 365 + 1) := by
  have := Civ.dby_succ
  unfold Civ.dby Civ.lps
  omega

theorem num_dby {y m d n : Int} (v : Civ.Vld y m d) (hn : Civ.num y m d = n) : Civ.dby y ≤ n ∧ n < Civ.dby (y + 1) := by
  have a := Civ.num_bd v
  have b := Civ.dby_succ y
  omega
/-- the month m is the first one whose length exceeds what is left -/
theorem left_of {y m d n k : Int} (v : Civ.Vld y m d) (hn : Civ.num y m d = n) (k0 : 1 ≤ k) (k1 : k ≤ m) :
    0 ≤ n - Civ.dby y - Civ.cum y k ∧ n - Civ.dby y - Civ.cum y k ≤ 366 ∧ (k < m → Civ.dim y k ≤ n - Civ.dby y - Civ.cum y k ∧ n - Civ.dby y - Civ.cum y (k + 1) = n - Civ.dby y - Civ.cum y k - Civ.dim y k) ∧
    (k = m → n - Civ.dby y - Civ.cum y k < Civ.dim y k ∧ n - Civ.dby y - Civ.cum y k + 1 = d) := by
  obtain ⟨y0, y1, m0, m1, d0, d1⟩ := v
  have c := Civ.cum_bd y k
  have b := Civ.dim_bd y m
  have b2 := Civ.dim_bd y k
  have e := Civ.num_bd (show Civ.Vld y m d from ⟨y0, y1, m0, m1, d0, d1⟩)
  have l := Civ.lp_01 y
  rw [hn] at e
  unfold Civ.num at hn
  by_cases q : k < m
  · have := Civ.cum_lt y k0 q (by omega)
    have := Civ.cum_succ y k k0 (by omega)
    refine ⟨by omega, by omega, fun _ => ⟨by omega, by omega⟩, fun _ => by omega⟩
  · obtain rfl : k = m := by omega
    refine ⟨by omega, by omega, fun _ => by omega, fun _ => ⟨by omega, by omega⟩⟩
theorem ret_4 {a b c a' b' c' : Int} (h : a = a') (h' : b = b') (h'' : c = c') :
    Ending.returned (.tuple #[.int .i64 a, .int .i64 b, .int .i64 c, .int .i64 0]) = .returned (.tuple #[.int .i64 a', .int .i64 b', .int .i64 c', .int .i64 0]) := by rw [h, h', h'']

theorem date_yes (y m d n : Int) (w : World) (L : Lay w) (v : Civ.Vld y m d) (hn : Civ.num y m d = n) :
    Calls Tryz.prog 145 #[.int .i64 n] w fun e w' => e = .returned (.tuple #[.int .i64 y, .int .i64 m, .int .i64 d, .int .i64 0]) ∧ w = w' := by
  obtain ⟨n0, n1⟩ := Civ.num_range v
  obtain ⟨p0, p1⟩ := num_dby v hn
  have HL := fun k => @left_of y m d n k v hn
  have hy := v.1
  have hy' := v.2.1
  have hm' := v.2.2.2.1
  have hm0 := v.2.2.1
  rw [hn] at n0 n1
  obtain ⟨g0, g1, g2⟩ := guess_up n n0 n1
  have gy : y ≤ 1970 + n / 365 := by
    by_cases c : y ≤ 1970 + n / 365
    · exact c
    · have := Civ.dby_mono (show 1970 + n / 365 + 1 ≤ y by omega); omega
  clear hn v g2
  have hL := Lib.hid HL
  clear HL
  go_enter Tryz.func145, Tryz.ntmps145
  go_wp2
  go_loop [6] (fun t => ∃ k : Int, y ≤ k ∧ k ≤ 10005 ∧ t = .int .i64 k) (fun t => (intOf t).toNat)
  case atStart => exact ⟨_, gy, g1, rfl⟩
  case round =>
    obtain ⟨k, k0, k1, rfl⟩ := hrel
    by_cases c : y < k
    · have q : n < Civ.dby k := by have := Civ.dby_mono (show y + 1 ≤ k by omega); omega
      go_wp2_with (go_at_call 160; refine (before_any _ _ (by omega) (by omega)).mono ?_; rintro e w' ⟨rfl, rfl⟩)
      go_round
      case rel => exact ⟨k - 1, by omega, by omega, rfl⟩
      case measure => simp [intOf]; omega
    · obtain rfl : y = k := by omega
      clear c gy
      have l1 := Civ.lp_01 y
      have l2 := Civ.dby_succ y
      go_wp2_with (go_at_call 160; refine (before_any _ _ (by omega) (by omega)).mono ?_; rintro e w' ⟨rfl, rfl⟩)
      go_loop [7, 8] (fun a r => ∃ k : Int, 1 ≤ k ∧ k ≤ m ∧ a = .int .i64 k ∧ r = .int .i64 (n - Civ.dby y - Civ.cum y k)) (fun a _ => (12 - intOf a).toNat)
      case atStart => exact ⟨1, by omega, by omega, rfl, by rw [Civ.cum_one]; simp⟩
      case round =>
        obtain ⟨k, k0, k1, rfl, rfl⟩ := hrel
        obtain ⟨r0, r1, r2, r3⟩ := hL.out k k0 k1
        have b := Civ.dim_bd y k
        by_cases c : k < m
        · obtain ⟨r4, r5⟩ := r2 c
          have R5 := Lib.hid r5
          clear r2 r3 r5
          go_wp2_with (go_at_call 146; refine (length_yes _ _ _ L (by omega) (by omega) (by omega) (by omega)).mono ?_; rintro e w' ⟨rfl, rfl⟩)
          go_round
          case rel => exact ⟨k + 1, by omega, by omega, rfl, by rw [R5.out]⟩
          case measure => simp [intOf]; omega
        · obtain rfl : m = k := by omega
          obtain ⟨r4, r5⟩ := r3 rfl
          have R5 := Lib.hid r5
          clear r2 r3 r5
          go_wp2_with (go_at_call 146; refine (length_yes _ _ _ L (by omega) (by omega) (by omega) (by omega)).mono ?_; rintro e w' ⟨rfl, rfl⟩)
          exact bodyPost_ret (v := .tuple #[.int .i64 y, .int .i64 m, .int .i64 (n - Civ.dby y - Civ.cum y m + 1), .int .i64 0]) (by simp [results, Tryz.results145, go_sem]) rfl ⟨ret_4 rfl rfl R5.out, rfl⟩

theorem guess_down (n : Int) (h0 : 0 ≤ n) (h1 : n ≤ 2932896) : 1970 ≤ 1970 + n / 366 ∧ 1970 + n / 366 ≤ 10005 ∧ Civ.dby (1970 + n / 366) ≤ n := by
  unfold Civ.dby Civ.lps
  omega

theorem dateR_yes (y m d n : Int) (w : World) (v : Civ.Vld y m d) (hn : Civ.num y m d = n) :
    Calls Tryz.prog 123 #[.int .i64 n] w fun e w' => e = .returned (.tuple #[.int .i64 y, .int .i64 m, .int .i64 d, .int .i64 0]) ∧ Below w.heap.size w w' := by
  obtain ⟨n0, n1⟩ := Civ.num_range v
  obtain ⟨p0, p1⟩ := num_dby v hn
  have HL := fun k => @left_of y m d n k v hn
  have hy := v.1
  have hy' := v.2.1
  have hm' := v.2.2.2.1
  have hm0 := v.2.2.1
  rw [hn] at n0 n1
  obtain ⟨g0, g1, g2⟩ := guess_down n n0 n1
  have gy : 1970 + n / 366 ≤ y := by
    by_cases c : 1970 + n / 366 ≤ y
    · exact c
    · have := Civ.dby_mono (show y + 1 ≤ 1970 + n / 366 by omega); omega
  clear hn v g2
  have hL := Lib.hid HL
  clear HL
  go_enter Tryz.func123, Tryz.ntmps123
  go_wp2
  go_loop [6] (fun t => ∃ k : Int, 1970 ≤ k ∧ k ≤ y ∧ t = .int .i64 k) (fun t => (9999 - intOf t).toNat)
  case atStart => exact ⟨_, g0, gy, rfl⟩
  case round =>
    obtain ⟨k, k0, k1, rfl⟩ := hrel
    by_cases c : k < y
    · have q : Civ.dby (k + 1) ≤ n := by have := Civ.dby_mono (show k + 1 ≤ y by omega); omega
      go_wp2_with (go_at_call 139; refine (beforeR_any _ _ (by omega) (by omega)).mono ?_; rintro e w' ⟨rfl, rfl⟩)
      go_round
      case rel => exact ⟨k + 1, by omega, by omega, rfl⟩
      case measure => simp [intOf]; omega
    · obtain rfl : y = k := by omega
      clear c gy
      have l1 := Civ.lp_01 y
      have l2 := Civ.dby_succ y
      have l3 : n - Civ.dby y ≤ 366 := by omega
      clear l2
      go_wp2_with (go_at_call 139; refine (beforeR_any _ _ (by omega) (by omega)).mono ?_; rintro e w' ⟨rfl, rfl⟩)
      go_loopw [7, 8] (fun r a wr => Below w.heap.size w wr ∧ ∃ k : Int, 1 ≤ k ∧ k ≤ m ∧ a = .int .i64 k ∧ r = .int .i64 (n - Civ.dby y - Civ.cum y k)) (fun _ a _ => (12 - intOf a).toNat)
      case atStart => exact ⟨Below.refl _ _, 1, by omega, by omega, rfl, by rw [Civ.cum_one]; simp⟩
      case round =>
        obtain ⟨bel, k, k0, k1, rfl, rfl⟩ := hrel
        obtain ⟨r0, r1, r2, r3⟩ := hL.out k k0 k1
        have b := Civ.dim_bd y k
        by_cases c : k < m
        · obtain ⟨r4, r5⟩ := r2 c
          have R5 := Lib.hid r5
          clear r2 r3 r5
          go_wp2_with (go_at_call 138; refine (lengthR_yes _ _ _ (by omega) (by omega) (by omega) (by omega)).mono ?_; rintro e w1 ⟨rfl, b1⟩)
          go_roundw
          case rel => exact ⟨bel.trans (b1.mono bel.size), k + 1, by omega, by omega, rfl, by rw [R5.out]⟩
          case measure => simp [intOf]; omega
        · obtain rfl : m = k := by omega
          obtain ⟨r4, r5⟩ := r3 rfl
          have R5 := Lib.hid r5
          clear r2 r3 r5
          go_wp2_with (go_at_call 138; refine (lengthR_yes _ _ _ (by omega) (by omega) (by omega) (by omega)).mono ?_; rintro e w1 ⟨rfl, b1⟩)
          exact bodyPost_ret (v := .tuple #[.int .i64 y, .int .i64 m, .int .i64 (n - Civ.dby y - Civ.cum y m + 1), .int .i64 0]) (by simp [results, Tryz.results123, go_sem]) rfl ⟨ret_4 rfl rfl R5.out, bel.trans (b1.mono bel.size)⟩
end Go.Proofs.YtljackjcgfaanaaGreatDoor.Cv
