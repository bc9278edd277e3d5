/- Contracts of Length, of package civil and of the document's: the length of each month from 1970 to 9999, and the error otherwise. The table of package civil is assumed as the program lays it. -/
import Derived.Test.YtbnhbfemoaokkaaDoorCivA
import Derived.Deep.QuietTactic
import Derived.BigQuiet
import Derived.ChangeOld
namespace Go.Proofs.YtbnhbfemoaokkaaDoor
open Go.ChangeShapes Go.RowKit

/-- the table of the lengths, as the program lays it -/
structure Lay (w : World) : Prop where
  c0 : w.cell? ⟨0, 0, none⟩ = some (.int .i64 31)
  c1 : w.cell? ⟨0, 1, none⟩ = some (.int .i64 28)
  c2 : w.cell? ⟨0, 2, none⟩ = some (.int .i64 31)
  c3 : w.cell? ⟨0, 3, none⟩ = some (.int .i64 30)
  c4 : w.cell? ⟨0, 4, none⟩ = some (.int .i64 31)
  c5 : w.cell? ⟨0, 5, none⟩ = some (.int .i64 30)
  c6 : w.cell? ⟨0, 6, none⟩ = some (.int .i64 31)
  c7 : w.cell? ⟨0, 7, none⟩ = some (.int .i64 31)
  c8 : w.cell? ⟨0, 8, none⟩ = some (.int .i64 30)
  c9 : w.cell? ⟨0, 9, none⟩ = some (.int .i64 31)
  c10 : w.cell? ⟨0, 10, none⟩ = some (.int .i64 30)
  c11 : w.cell? ⟨0, 11, none⟩ = some (.int .i64 31)
  lt : 0 < w.heap.size

theorem length_no (y m : Int) (w : World) (h : ¬ (1970 ≤ y ∧ y ≤ 9999 ∧ 1 ≤ m ∧ m ≤ 12)) :
    Calls Tryd.prog 54 #[.int .i64 y, .int .i64 m] w fun e w' => e = .returned (.tuple #[.int .i64 0, .int .i64 2]) ∧ w = w' := by
  by_cases a : y < 1970
  · clear h
    go_enter Tryd.func54, Tryd.ntmps54
    go_wp2
    go_ret2
    exact ⟨rfl, rfl⟩
  · by_cases b : 9999 < y
    · clear h
      go_enter Tryd.func54, Tryd.ntmps54
      go_wp2
      go_ret2
      exact ⟨rfl, rfl⟩
    · by_cases c : m < 1
      · clear h
        go_enter Tryd.func54, Tryd.ntmps54
        go_wp2
        go_ret2
        exact ⟨rfl, rfl⟩
      · have d : 12 < m := by omega
        clear h
        go_enter Tryd.func54, Tryd.ntmps54
        go_wp2
        go_ret2
        exact ⟨rfl, rfl⟩
theorem lengthR_no (y m : Int) (w : World) (h : ¬ (1970 ≤ y ∧ y ≤ 9999 ∧ 1 ≤ m ∧ m ≤ 12)) :
    Calls Tryd.prog 56 #[.int .i64 y, .int .i64 m] w fun e w' => e = .returned (.tuple #[.int .i64 0, .int .i64 2]) ∧ w = w' := by
  by_cases a : y < 1970
  · clear h
    go_enter Tryd.func56, Tryd.ntmps56
    go_wp2
    go_ret2
    exact ⟨rfl, rfl⟩
  · by_cases b : 9999 < y
    · clear h
      go_enter Tryd.func56, Tryd.ntmps56
      go_wp2
      go_ret2
      exact ⟨rfl, rfl⟩
    · by_cases c : m < 1
      · clear h
        go_enter Tryd.func56, Tryd.ntmps56
        go_wp2
        go_ret2
        exact ⟨rfl, rfl⟩
      · have d : 12 < m := by omega
        clear h
        go_enter Tryd.func56, Tryd.ntmps56
        go_wp2
        go_ret2
        exact ⟨rfl, rfl⟩
theorem dim_feb (y : Int) : Civ.dim y 2 = 28 + Civ.lp y := by simp [Civ.dim]

theorem length_1 (y : Int) (w : World) (y0 : 1970 ≤ y) (y1 : y ≤ 9999) (hc : w.cell? ⟨0, 0, none⟩ = some (.int .i64 31)) :
    Calls Tryd.prog 54 #[.int .i64 y, .int .i64 1] w fun e w' => e = .returned (.tuple #[.int .i64 31, .int .i64 0]) ∧ w = w' := by
  go_enter Tryd.func54, Tryd.ntmps54
  go_wp2
  go_ret2
  exact ⟨rfl, rfl⟩
theorem length_3 (y : Int) (w : World) (y0 : 1970 ≤ y) (y1 : y ≤ 9999) (hc : w.cell? ⟨0, 2, none⟩ = some (.int .i64 31)) :
    Calls Tryd.prog 54 #[.int .i64 y, .int .i64 3] w fun e w' => e = .returned (.tuple #[.int .i64 31, .int .i64 0]) ∧ w = w' := by
  go_enter Tryd.func54, Tryd.ntmps54
  go_wp2
  go_ret2
  exact ⟨rfl, rfl⟩
theorem length_4 (y : Int) (w : World) (y0 : 1970 ≤ y) (y1 : y ≤ 9999) (hc : w.cell? ⟨0, 3, none⟩ = some (.int .i64 30)) :
    Calls Tryd.prog 54 #[.int .i64 y, .int .i64 4] w fun e w' => e = .returned (.tuple #[.int .i64 30, .int .i64 0]) ∧ w = w' := by
  go_enter Tryd.func54, Tryd.ntmps54
  go_wp2
  go_ret2
  exact ⟨rfl, rfl⟩
theorem length_5 (y : Int) (w : World) (y0 : 1970 ≤ y) (y1 : y ≤ 9999) (hc : w.cell? ⟨0, 4, none⟩ = some (.int .i64 31)) :
    Calls Tryd.prog 54 #[.int .i64 y, .int .i64 5] w fun e w' => e = .returned (.tuple #[.int .i64 31, .int .i64 0]) ∧ w = w' := by
  go_enter Tryd.func54, Tryd.ntmps54
  go_wp2
  go_ret2
  exact ⟨rfl, rfl⟩
theorem length_6 (y : Int) (w : World) (y0 : 1970 ≤ y) (y1 : y ≤ 9999) (hc : w.cell? ⟨0, 5, none⟩ = some (.int .i64 30)) :
    Calls Tryd.prog 54 #[.int .i64 y, .int .i64 6] w fun e w' => e = .returned (.tuple #[.int .i64 30, .int .i64 0]) ∧ w = w' := by
  go_enter Tryd.func54, Tryd.ntmps54
  go_wp2
  go_ret2
  exact ⟨rfl, rfl⟩
theorem length_7 (y : Int) (w : World) (y0 : 1970 ≤ y) (y1 : y ≤ 9999) (hc : w.cell? ⟨0, 6, none⟩ = some (.int .i64 31)) :
    Calls Tryd.prog 54 #[.int .i64 y, .int .i64 7] w fun e w' => e = .returned (.tuple #[.int .i64 31, .int .i64 0]) ∧ w = w' := by
  go_enter Tryd.func54, Tryd.ntmps54
  go_wp2
  go_ret2
  exact ⟨rfl, rfl⟩
theorem length_8 (y : Int) (w : World) (y0 : 1970 ≤ y) (y1 : y ≤ 9999) (hc : w.cell? ⟨0, 7, none⟩ = some (.int .i64 31)) :
    Calls Tryd.prog 54 #[.int .i64 y, .int .i64 8] w fun e w' => e = .returned (.tuple #[.int .i64 31, .int .i64 0]) ∧ w = w' := by
  go_enter Tryd.func54, Tryd.ntmps54
  go_wp2
  go_ret2
  exact ⟨rfl, rfl⟩
theorem length_9 (y : Int) (w : World) (y0 : 1970 ≤ y) (y1 : y ≤ 9999) (hc : w.cell? ⟨0, 8, none⟩ = some (.int .i64 30)) :
    Calls Tryd.prog 54 #[.int .i64 y, .int .i64 9] w fun e w' => e = .returned (.tuple #[.int .i64 30, .int .i64 0]) ∧ w = w' := by
  go_enter Tryd.func54, Tryd.ntmps54
  go_wp2
  go_ret2
  exact ⟨rfl, rfl⟩
theorem length_10 (y : Int) (w : World) (y0 : 1970 ≤ y) (y1 : y ≤ 9999) (hc : w.cell? ⟨0, 9, none⟩ = some (.int .i64 31)) :
    Calls Tryd.prog 54 #[.int .i64 y, .int .i64 10] w fun e w' => e = .returned (.tuple #[.int .i64 31, .int .i64 0]) ∧ w = w' := by
  go_enter Tryd.func54, Tryd.ntmps54
  go_wp2
  go_ret2
  exact ⟨rfl, rfl⟩
theorem length_11 (y : Int) (w : World) (y0 : 1970 ≤ y) (y1 : y ≤ 9999) (hc : w.cell? ⟨0, 10, none⟩ = some (.int .i64 30)) :
    Calls Tryd.prog 54 #[.int .i64 y, .int .i64 11] w fun e w' => e = .returned (.tuple #[.int .i64 30, .int .i64 0]) ∧ w = w' := by
  go_enter Tryd.func54, Tryd.ntmps54
  go_wp2
  go_ret2
  exact ⟨rfl, rfl⟩
theorem length_12 (y : Int) (w : World) (y0 : 1970 ≤ y) (y1 : y ≤ 9999) (hc : w.cell? ⟨0, 11, none⟩ = some (.int .i64 31)) :
    Calls Tryd.prog 54 #[.int .i64 y, .int .i64 12] w fun e w' => e = .returned (.tuple #[.int .i64 31, .int .i64 0]) ∧ w = w' := by
  go_enter Tryd.func54, Tryd.ntmps54
  go_wp2
  go_ret2
  exact ⟨rfl, rfl⟩
theorem length_2 (y : Int) (w : World) (y0 : 1970 ≤ y) (y1 : y ≤ 9999) (hc : w.cell? ⟨0, 1, none⟩ = some (.int .i64 28)) :
    Calls Tryd.prog 54 #[.int .i64 y, .int .i64 2] w fun e w' => e = .returned (.tuple #[.int .i64 (28 + Civ.lp y), .int .i64 0]) ∧ w = w' := by
  rw [lpB_lp]
  by_cases h : y % 4 = 0 ∧ y % 100 ≠ 0 ∨ y % 400 = 0
  · rw [lpB_t h, if_pos rfl]
    have L := Lib.hid (leap_t y w h)
    clear h
    go_enter Tryd.func54, Tryd.ntmps54
    go_wp2_with (go_at_call 58; refine L.out.mono ?_; rintro e w' ⟨rfl, rfl⟩)
    go_ret2
    exact ⟨rfl, rfl⟩
  · rw [lpB_f h, if_neg (by simp)]
    have L := Lib.hid (leap_f y w h)
    clear h
    go_enter Tryd.func54, Tryd.ntmps54
    go_wp2_with (go_at_call 58; refine L.out.mono ?_; rintro e w' ⟨rfl, rfl⟩)
    go_ret2
    exact ⟨rfl, rfl⟩
theorem length_yes (y m : Int) (w : World) (L : Lay w) (y0 : 1970 ≤ y) (y1 : y ≤ 9999) (m0 : 1 ≤ m) (m1 : m ≤ 12) :
    Calls Tryd.prog 54 #[.int .i64 y, .int .i64 m] w fun e w' => e = .returned (.tuple #[.int .i64 (Civ.dim y m), .int .i64 0]) ∧ w = w' := by
  rcases Civ.cases12 m0 m1 with rfl | rfl | rfl | rfl | rfl | rfl | rfl | rfl | rfl | rfl | rfl | rfl
  · exact length_1 y w y0 y1 L.c0
  · rw [dim_feb]; exact length_2 y w y0 y1 L.c1
  · exact length_3 y w y0 y1 L.c2
  · exact length_4 y w y0 y1 L.c3
  · exact length_5 y w y0 y1 L.c4
  · exact length_6 y w y0 y1 L.c5
  · exact length_7 y w y0 y1 L.c6
  · exact length_8 y w y0 y1 L.c7
  · exact length_9 y w y0 y1 L.c8
  · exact length_10 y w y0 y1 L.c9
  · exact length_11 y w y0 y1 L.c10
  · exact length_12 y w y0 y1 L.c11

theorem lengthR_1 (y : Int) (w : World) (y0 : 1970 ≤ y) (y1 : y ≤ 9999) :
    Calls Tryd.prog 56 #[.int .i64 y, .int .i64 1] w fun e w' => e = .returned (.tuple #[.int .i64 31, .int .i64 0]) ∧ Below w.heap.size w w' := by
  go_enter Tryd.func56, Tryd.ntmps56
  go_wp2
  go_ret2
  exact ⟨rfl, (Below.refl _ _).alloc (Nat.le_refl _) _⟩
theorem lengthR_3 (y : Int) (w : World) (y0 : 1970 ≤ y) (y1 : y ≤ 9999) :
    Calls Tryd.prog 56 #[.int .i64 y, .int .i64 3] w fun e w' => e = .returned (.tuple #[.int .i64 31, .int .i64 0]) ∧ Below w.heap.size w w' := by
  go_enter Tryd.func56, Tryd.ntmps56
  go_wp2
  go_ret2
  exact ⟨rfl, (Below.refl _ _).alloc (Nat.le_refl _) _⟩
theorem lengthR_4 (y : Int) (w : World) (y0 : 1970 ≤ y) (y1 : y ≤ 9999) :
    Calls Tryd.prog 56 #[.int .i64 y, .int .i64 4] w fun e w' => e = .returned (.tuple #[.int .i64 30, .int .i64 0]) ∧ Below w.heap.size w w' := by
  go_enter Tryd.func56, Tryd.ntmps56
  go_wp2
  go_ret2
  exact ⟨rfl, (Below.refl _ _).alloc (Nat.le_refl _) _⟩
theorem lengthR_5 (y : Int) (w : World) (y0 : 1970 ≤ y) (y1 : y ≤ 9999) :
    Calls Tryd.prog 56 #[.int .i64 y, .int .i64 5] w fun e w' => e = .returned (.tuple #[.int .i64 31, .int .i64 0]) ∧ Below w.heap.size w w' := by
  go_enter Tryd.func56, Tryd.ntmps56
  go_wp2
  go_ret2
  exact ⟨rfl, (Below.refl _ _).alloc (Nat.le_refl _) _⟩
theorem lengthR_6 (y : Int) (w : World) (y0 : 1970 ≤ y) (y1 : y ≤ 9999) :
    Calls Tryd.prog 56 #[.int .i64 y, .int .i64 6] w fun e w' => e = .returned (.tuple #[.int .i64 30, .int .i64 0]) ∧ Below w.heap.size w w' := by
  go_enter Tryd.func56, Tryd.ntmps56
  go_wp2
  go_ret2
  exact ⟨rfl, (Below.refl _ _).alloc (Nat.le_refl _) _⟩
theorem lengthR_7 (y : Int) (w : World) (y0 : 1970 ≤ y) (y1 : y ≤ 9999) :
    Calls Tryd.prog 56 #[.int .i64 y, .int .i64 7] w fun e w' => e = .returned (.tuple #[.int .i64 31, .int .i64 0]) ∧ Below w.heap.size w w' := by
  go_enter Tryd.func56, Tryd.ntmps56
  go_wp2
  go_ret2
  exact ⟨rfl, (Below.refl _ _).alloc (Nat.le_refl _) _⟩
theorem lengthR_8 (y : Int) (w : World) (y0 : 1970 ≤ y) (y1 : y ≤ 9999) :
    Calls Tryd.prog 56 #[.int .i64 y, .int .i64 8] w fun e w' => e = .returned (.tuple #[.int .i64 31, .int .i64 0]) ∧ Below w.heap.size w w' := by
  go_enter Tryd.func56, Tryd.ntmps56
  go_wp2
  go_ret2
  exact ⟨rfl, (Below.refl _ _).alloc (Nat.le_refl _) _⟩
theorem lengthR_9 (y : Int) (w : World) (y0 : 1970 ≤ y) (y1 : y ≤ 9999) :
    Calls Tryd.prog 56 #[.int .i64 y, .int .i64 9] w fun e w' => e = .returned (.tuple #[.int .i64 30, .int .i64 0]) ∧ Below w.heap.size w w' := by
  go_enter Tryd.func56, Tryd.ntmps56
  go_wp2
  go_ret2
  exact ⟨rfl, (Below.refl _ _).alloc (Nat.le_refl _) _⟩
theorem lengthR_10 (y : Int) (w : World) (y0 : 1970 ≤ y) (y1 : y ≤ 9999) :
    Calls Tryd.prog 56 #[.int .i64 y, .int .i64 10] w fun e w' => e = .returned (.tuple #[.int .i64 31, .int .i64 0]) ∧ Below w.heap.size w w' := by
  go_enter Tryd.func56, Tryd.ntmps56
  go_wp2
  go_ret2
  exact ⟨rfl, (Below.refl _ _).alloc (Nat.le_refl _) _⟩
theorem lengthR_11 (y : Int) (w : World) (y0 : 1970 ≤ y) (y1 : y ≤ 9999) :
    Calls Tryd.prog 56 #[.int .i64 y, .int .i64 11] w fun e w' => e = .returned (.tuple #[.int .i64 30, .int .i64 0]) ∧ Below w.heap.size w w' := by
  go_enter Tryd.func56, Tryd.ntmps56
  go_wp2
  go_ret2
  exact ⟨rfl, (Below.refl _ _).alloc (Nat.le_refl _) _⟩
theorem lengthR_12 (y : Int) (w : World) (y0 : 1970 ≤ y) (y1 : y ≤ 9999) :
    Calls Tryd.prog 56 #[.int .i64 y, .int .i64 12] w fun e w' => e = .returned (.tuple #[.int .i64 31, .int .i64 0]) ∧ Below w.heap.size w w' := by
  go_enter Tryd.func56, Tryd.ntmps56
  go_wp2
  go_ret2
  exact ⟨rfl, (Below.refl _ _).alloc (Nat.le_refl _) _⟩
theorem lengthR_2 (y : Int) (w : World) (y0 : 1970 ≤ y) (y1 : y ≤ 9999) :
    Calls Tryd.prog 56 #[.int .i64 y, .int .i64 2] w fun e w' => e = .returned (.tuple #[.int .i64 (28 + Civ.lp y), .int .i64 0]) ∧ Below w.heap.size w w' := by
  rw [lpB_lp]
  by_cases h : y % 4 = 0 ∧ y % 100 ≠ 0 ∨ y % 400 = 0
  · rw [lpB_t h, if_pos rfl]
    have L := Lib.hid (leapR_t y w h)
    clear h
    go_enter Tryd.func56, Tryd.ntmps56
    go_wp2_with (go_at_call 60; refine L.out.mono ?_; rintro e w' ⟨rfl, rfl⟩)
    go_ret2
    exact ⟨rfl, Below.refl _ _⟩
  · rw [lpB_f h, if_neg (by simp)]
    have L := Lib.hid (leapR_f y w h)
    clear h
    go_enter Tryd.func56, Tryd.ntmps56
    go_wp2_with (go_at_call 60; refine L.out.mono ?_; rintro e w' ⟨rfl, rfl⟩)
    go_ret2
    exact ⟨rfl, (Below.refl _ _).alloc (Nat.le_refl _) _⟩
theorem lengthR_yes (y m : Int) (w : World) (y0 : 1970 ≤ y) (y1 : y ≤ 9999) (m0 : 1 ≤ m) (m1 : m ≤ 12) :
    Calls Tryd.prog 56 #[.int .i64 y, .int .i64 m] w fun e w' => e = .returned (.tuple #[.int .i64 (Civ.dim y m), .int .i64 0]) ∧ Below w.heap.size w w' := by
  rcases Civ.cases12 m0 m1 with rfl | rfl | rfl | rfl | rfl | rfl | rfl | rfl | rfl | rfl | rfl | rfl
  · exact lengthR_1 y w y0 y1
  · rw [dim_feb]; exact lengthR_2 y w y0 y1
  · exact lengthR_3 y w y0 y1
  · exact lengthR_4 y w y0 y1
  · exact lengthR_5 y w y0 y1
  · exact lengthR_6 y w y0 y1
  · exact lengthR_7 y w y0 y1
  · exact lengthR_8 y w y0 y1
  · exact lengthR_9 y w y0 y1
  · exact lengthR_10 y w y0 y1
  · exact lengthR_11 y w y0 y1
  · exact lengthR_12 y w y0 y1
end Go.Proofs.YtbnhbfemoaokkaaDoor
