/- What the program lays in the two tables that package match reads: that of math/bits and that of the lengths of the months. -/
import Derived.Test.YtljackjcgfaanaaGreatDoorRows
import Derived.Test.YtljackjcgfaanaaGreatDoorTie
import Derived.Test.YtljackjcgfaanaaGreatDoorCards
import Derived.Test.YtljackjcgfaanaaGreatDoorGMFldO
import Derived.Test.YtljackjcgfaanaaGreatDoorExpArg
import Derived.Lib.LaidTab
import Derived.LaidLaws
import Derived.ChangeMaps5
import Derived.Lay
import Derived.LaidMore
import Derived.OpenShut
import Derived.Stop.Joined
import Derived.Lib.SmallJoins
namespace Go.Proofs.YtljackjcgfaanaaGreatDoor
open Go.ChangeShapes Go.WideShapes Go.ChangeAt Go.RowKit

theorem laid_at {P : Program} {W : World} : ∀ {laid : List (String × DataW Unit)} {ps : List MemPlace}, DataW.LaidVars P W laid ps → ∀ n d, (n, d) ∈ laid →
    ∃ g t cs fuel p, P.globalNamed n = some g ∧ (P.globals[g]?).map (·.type) = some t ∧ W.var? P n = some cs ∧ DataW.trod (fun _ => ()) P W 0 (fun _ => true) false fuel t cs.toList = some (d, p)
  | [], _, _, n, d, hm => by simp at hm
  | (n', d') :: r, ps, h, n, d, hm => by
    obtain ⟨g, t, cs, fuel, p, q, h1, h2, h3, h4, h5, _⟩ := h
    rcases List.mem_cons.1 hm with e | hm
    · cases e; exact ⟨g, t, cs, fuel, p, h1, h2, h3, h4⟩
    · exact laid_at h5 n d hm
theorem tTab : (Tryz.prog.globals[1]?).map (·.type) = some 196 := by kernel_rfl
theorem tab_eq : ([0, 1, 56, 2, 57, 49, 28, 3, 61, 58, 42, 50, 38, 29, 17, 4, 62, 47, 59, 36, 45, 43, 51, 22, 53, 39, 33, 30, 24, 18, 12, 5,   63, 55, 48, 27, 60, 41, 37, 16, 46, 35, 44, 21, 52, 32, 23, 11, 54, 26, 40, 15, 34, 20, 31, 10, 25, 14, 19, 9, 13, 8, 7, 6] : List Int) = Lib.deBruijn64tab.map (fun n : Nat => (n : Int)) := by decide +kernel
theorem layB_of (laid : List (String × DataW Unit)) (W : World) (hp : (laid.all fun x => x.2.handleName?.isNone) = true) {nm : String} (hm : (nm, Rows.laid_math_bits_deBruijn64tab) ∈ laid) (gTab : Tryz.prog.globalNamed nm = some 1) (h : laidMetH Tryz.prog laid W) : Lay W := by
  rw [MakeChecks.laidMetH_plain _ _ _ hp] at h
  obtain ⟨ps, hv, _⟩ := h
  obtain ⟨g, t, cs, fuel, p, h1, h2, h3, h4⟩ := laid_at hv _ _ hm
  obtain rfl := Option.some.inj (gTab.symm.trans h1)
  obtain rfl := Option.some.inj (tTab.symm.trans h2)
  have hcs := Lib.cells_of_tab (zs := [0, 1, 56, 2, 57, 49, 28, 3, 61, 58, 42, 50, 38, 29, 17, 4, 62, 47, 59, 36, 45, 43, 51, 22, 53, 39, 33, 30, 24, 18, 12, 5,   63, 55, 48, 27, 60, 41, 37, 16, 46, 35, 44, 21, 52, 32, 23, 11, 54, 26, 40, 15, 34, 20, 31, 10, 25, 14, 19, 9, 13, 8, 7, 6]) (k := .u8) Tryz.underlying196 Tryz.underlying5 (by kernel_rfl) (by kernel_rfl) h4
  rw [tab_eq] at hcs
  have c : ∀ j, j < 64 → W.cell? ⟨1, j, none⟩ = some (.int .u8 (Lib.deBruijn64tab.getD j 0 : Nat)) := fun j hj => by
    have hj' : j < Lib.deBruijn64tab.length := hj
    rw [World.var?_cell gTab h3 j, ← Array.getElem?_toList, hcs, List.map_map, List.getElem?_map, List.getElem?_eq_getElem hj', List.getD_eq_getElem?_getD, List.getElem?_eq_getElem hj']
    rfl
  exact ⟨c, World.block_lt_of_cell? W _ (c 0 (by decide))⟩

theorem tLengths : (Tryz.prog.globals[0]?).map (·.type) = some 180 := by kernel_rfl
theorem layC_of (laid : List (String × DataW Unit)) (W : World) (hp : (laid.all fun x => x.2.handleName?.isNone) = true) {nm : String} (hm : (nm, Rows.laid_wakeman_civil_lengths) ∈ laid) (gLengths : Tryz.prog.globalNamed nm = some 0) (h : laidMetH Tryz.prog laid W) : Cv.Lay W := by
  rw [MakeChecks.laidMetH_plain _ _ _ hp] at h
  obtain ⟨ps, hv, _⟩ := h
  obtain ⟨g, t, cs, fuel, p, h1, h2, h3, h4⟩ := laid_at hv _ _ hm
  obtain rfl := Option.some.inj (gLengths.symm.trans h1)
  obtain rfl := Option.some.inj (tLengths.symm.trans h2)
  have hcs := Lib.cells_of_tab (zs := [31, 28, 31, 30, 31, 30, 31, 31, 30, 31, 30, 31]) (k := .i64) Tryz.underlying180 Tryz.underlying3 (by kernel_rfl) (by kernel_rfl) h4
  obtain rfl : cs = #[.int .i64 31, .int .i64 28, .int .i64 31, .int .i64 30, .int .i64 31, .int .i64 30, .int .i64 31, .int .i64 31, .int .i64 30, .int .i64 31, .int .i64 30, .int .i64 31] := Array.toList_inj.1 hcs
  have c := fun i => World.var?_cell gLengths h3 i
  exact ⟨c 0, c 1, c 2, c 3, c 4, c 5, c 6, c 7, c 8, c 9, c 10, c 11, World.block_lt_of_cell? W _ (c 0)⟩
theorem layM_of (laid : List (String × DataW Unit)) (W : World) (hp : (laid.all fun x => x.2.handleName?.isNone) = true) {nm nn : String} (hm : (nm, Rows.laid_math_bits_deBruijn64tab) ∈ laid) (hn : (nn, Rows.laid_wakeman_civil_lengths) ∈ laid) (gm : Tryz.prog.globalNamed nm = some 1) (gn : Tryz.prog.globalNamed nn = some 0) (h : laidMetH Tryz.prog laid W) : LayM W :=
  ⟨layB_of laid W hp hm gm h, layC_of laid W hp hn gn h⟩

theorem own : ownKnob Tryz.prog.godebug = none := by kernel_rfl
theorem laidOut : laidOutB Tryz.prog = true := by kernel_rfl
theorem looks0 : false = Tryz.prog.looks [] := by kernel_rfl
end Go.Proofs.YtljackjcgfaanaaGreatDoor
