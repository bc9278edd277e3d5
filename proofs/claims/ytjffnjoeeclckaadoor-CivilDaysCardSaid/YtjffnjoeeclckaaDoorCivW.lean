/- Parse of the text of each valid civil time; the examples hold: 'works' returns true; nothing in memory that was there changes. -/
import Derived.Test.YtjffnjoeeclckaaDoorCivBk
import Derived.Test.YtjffnjoeeclckaaDoorCivTextR
namespace Go.Proofs.YtjffnjoeeclckaaDoor
open Go.ChangeShapes Go.RowKit

theorem parse_text (y m d h i s t : Int) (w : World) (L : Lay w) (v : Civ.CVld y m d h i s) (ht : Civ.secs y m d h i s = t) :
    Calls Tryd.prog 34 #[.string (strOfNums (txt y m d h i s))] w fun e w' => e = .returned (.tuple #[.int .i64 t, .int .i64 0]) ∧ Below w.heap.size w w' := by
  obtain ⟨e0, e1, e2, e3, e4, e5⟩ := txt_flds v
  refine parse_six _ w L (txt_size ..) (txt_good _ _ _ _ _ _) t 0 fun w1 L1 => ?_
  rw [e0, e1, e2, e3, e4, e5]
  exact time_yes y m d h i s t w1 L1 v ht

theorem parse_lit (w : World) (L : Lay w) :
    Calls Tryd.prog 34 #[.string ⟨#[50, 48, 50, 52, 45, 48, 50, 45, 50, 57, 32, 48, 48, 58, 48, 48, 58, 48, 48]⟩] w fun e w' => e = .returned (.tuple #[.int .i64 1709164800, .int .i64 0]) ∧ Below w.heap.size w w' :=
  parse_text 2024 2 29 0 0 0 1709164800 w L (by unfold Civ.CVld Civ.Vld; decide) (by decide)
theorem text_lit (w : World) (L : Lay w) :
    Calls Tryd.prog 28 #[.int .i64 253402300799] w fun e w' => e = .returned (.tuple #[.string ⟨#[57, 57, 57, 57, 45, 49, 50, 45, 51, 49, 32, 50, 51, 58, 53, 57, 58, 53, 57]⟩, .int .i64 0]) ∧ Below w.heap.size w w' :=
  text_yes 9999 12 31 23 59 59 253402300799 w L (by unfold Civ.CVld Civ.Vld; decide) (by decide)

set_option maxRecDepth 100000 in
theorem works_any (w : World) (L : Lay w) : Calls Tryd.prog 21 #[] w fun e w' => e = .returned (.bool true) ∧ Below w.heap.size w w' := by
  go_enter Tryd.func21, Tryd.ntmps21
  go_wp2_with fail
  refine (days_yes 2000 3 1 11017 _ L (by unfold Civ.Vld; decide) (by decide)).mono ?_
  rintro e w' ⟨rfl, rfl⟩
  go_wp2_with fail
  refine (of_yes 2000 2 28 23 59 59 951782399 _ L (by unfold Civ.CVld Civ.Vld; decide) (by decide)).mono ?_
  rintro e w1 ⟨rfl, hb⟩
  obtain ⟨W, hW, A⟩ := civ6_start w w1 hb 2000 2 28 23 59 59 34
  have H := Lib.hid hW
  have L1 := Lib.hid (L.below A.bel)
  have A1 := Lib.hid A
  clear hW A hb
  go_wp2_with fail
  rw [← H.out]
  refine (text_lit _ L1.out).mono ?_
  rintro e w2 ⟨rfl, hb⟩
  have L2 := Lib.hid (L1.out.below hb)
  have A2 := Lib.hid (A1.out.below hb)
  clear hb
  go_wp2_with fail
  refine (parse_lit _ L2.out).mono ?_
  rintro e w3 ⟨rfl, hb⟩
  have L3 := Lib.hid (L2.out.below hb)
  have A3 := Lib.hid (A2.out.below hb)
  clear hb
  go_wp2_with fail
  refine (week_yes 259200 _ (by decide) (by decide)).mono ?_
  rintro e w' ⟨rfl, rfl⟩
  go_wp2_with fail
  refine (days_no 2023 2 29 _ L3.out (by unfold Civ.Vld; decide)).mono ?_
  rintro e w' ⟨rfl, rfl⟩
  have q0 := A3.out.g0
  have q1 := A3.out.g1
  have q2 := A3.out.g2
  have q3 := A3.out.g3
  have q4 := A3.out.g4
  have q5 := A3.out.g5
  go_wp2_with fail
  refine (leap_t 2000 _ (by decide)).mono ?_
  rintro e w' ⟨rfl, rfl⟩
  go_wp2_with fail
  go_ret
  exact ⟨rfl, A3.out.bel⟩
end Go.Proofs.YtjffnjoeeclckaaDoor
