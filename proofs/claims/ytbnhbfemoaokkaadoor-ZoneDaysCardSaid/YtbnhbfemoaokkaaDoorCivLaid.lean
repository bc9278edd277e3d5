/- What the program lays in the table of the lengths; a civil time that comes in is six ints. -/
import Derived.Test.YtbnhbfemoaokkaaDoorRows
import Derived.Test.YtbnhbfemoaokkaaDoorTie
import Derived.Test.YtbnhbfemoaokkaaDoorCivB
import Derived.Lib.LaidTab
import Derived.LaidMore
import Derived.OpenShut
import Derived.Stop.Joined
import Derived.Lib.SmallJoins
namespace Go.Proofs.YtbnhbfemoaokkaaDoor
open Go.ChangeShapes Go.WideShapes Go.ChangeAt Go.RowKit

theorem laid_at {P : Program} {W : World} : ∀ {laid : List (String × DataW Unit)} {ps : List MemPlace}, DataW.LaidVars P W laid ps → ∀ n d, (n, d) ∈ laid →
    ∃ g t cs fuel p, P.globalNamed n = some g ∧ (P.globals[g]?).map (·.type) = some t ∧ W.var? P n = some cs ∧ DataW.trod (fun _ => ()) P W 0 (fun _ => true) false fuel t cs.toList = some (d, p)
  | [], _, _, n, d, hm => by simp at hm
  | (n', d') :: r, ps, h, n, d, hm => by
    obtain ⟨g, t, cs, fuel, p, q, h1, h2, h3, h4, h5, _⟩ := h
    rcases List.mem_cons.1 hm with e | hm
    · cases e; exact ⟨g, t, cs, fuel, p, h1, h2, h3, h4⟩
    · exact laid_at h5 n d hm

theorem tLengths : (Tryd.prog.globals[0]?).map (·.type) = some 69 := by kernel_rfl
/-- is this entry of a row's list the table of the lengths? -/
noncomputable def isLengths (x : String × DataW Unit) : Bool := decide (Tryd.prog.globalNamed x.1 = some 0)
theorem lay_of (laid : List (String × DataW Unit)) (W : World) (hp : (laid.all fun x => x.2.handleName?.isNone) = true) (nm : String) (hf : laid.find? isLengths = some (nm, Rows.laid_wakeman_civil_lengths)) (h : laidMetH Tryd.prog laid W) : Lay W := by
  have gLengths : Tryd.prog.globalNamed nm = some 0 := by simpa [isLengths] using List.find?_some hf
  have hm := List.mem_of_find?_eq_some hf
  rw [MakeChecks.laidMetH_plain _ _ _ hp] at h
  obtain ⟨ps, hv, _⟩ := h
  obtain ⟨g, t, cs, fuel, p, h1, h2, h3, h4⟩ := laid_at hv _ _ hm
  obtain rfl := Option.some.inj (gLengths.symm.trans h1)
  obtain rfl := Option.some.inj (tLengths.symm.trans h2)
  have hcs := Lib.cells_of_tab (zs := [31, 28, 31, 30, 31, 30, 31, 31, 30, 31, 30, 31]) (k := .i64) Tryd.underlying69 Tryd.underlying3 (by kernel_rfl) (by kernel_rfl) h4
  obtain rfl : cs = #[.int .i64 31, .int .i64 28, .int .i64 31, .int .i64 30, .int .i64 31, .int .i64 30, .int .i64 31, .int .i64 31, .int .i64 30, .int .i64 31, .int .i64 30, .int .i64 31] := Array.toList_inj.1 hcs
  have c := fun i => World.var?_cell gLengths h3 i
  exact ⟨c 0, c 1, c 2, c 3, c 4, c 5, c 6, c 7, c 8, c 9, c 10, c 11, World.block_lt_of_cell? W _ (c 0)⟩

theorem open_civil {H : Type} {enc : TypeId × Value → H} {W : World} {base b : Nat} {spare : Nat → Bool} {held : Bool} {r : Reach} {v : Value} {d : DataW H} {p : List MemPlace}
    (hv : Value.okWide Tryd.prog W r b 31 v) (h : DataW.Trod enc Tryd.prog W base spare held 31 v d p) :
    ∃ n0 n1 n2 n3 n4 n5 : Int, v = .agg #[.int .i64 n0, .int .i64 n1, .int .i64 n2, .int .i64 n3, .int .i64 n4, .int .i64 n5] ∧
      ((Lit.int .i64 n0).wf = true ∧ (Lit.int .i64 n1).wf = true ∧ (Lit.int .i64 n2).wf = true ∧ (Lit.int .i64 n3).wf = true ∧ (Lit.int .i64 n4).wf = true ∧ (Lit.int .i64 n5).wf = true) := by
  obtain ⟨cs, rfl, hsz⟩ := okWide_struct Tryd.underlying31 hv
  obtain ⟨fuel, hf⟩ := h
  obtain ⟨xs, n, _, _, hl, hlen, hg⟩ := DataW.trod_struct Tryd.underlying31 hf
  have c1 : Tryd.prog.cellsOf 3 = 1 := by kernel_rfl
  have c6 : Tryd.prog.cellsOf 31 = 6 := by kernel_rfl
  obtain ⟨l⟩ := cs
  have hl6 : l.length = 6 := by rw [← c6]; simpa [Value.cells] using hl
  have hx6 : xs.length = 6 := hlen
  match l, hl6, xs, hx6 with
  | [v0, v1, v2, v3, v4, v5], _, [x0, x1, x2, x3, x4, x5], _ =>
    have g0 := hg 0 _ rfl
    change DataW.trod enc Tryd.prog W base spare held n 3 (([v0, v1, v2, v3, v4, v5].drop 0).take (Tryd.prog.cellsOf 3)) = some x0 at g0
    rw [c1] at g0
    change DataW.trod enc Tryd.prog W base spare held n 3 [v0] = some x0 at g0
    have g1 := hg 1 _ rfl
    change DataW.trod enc Tryd.prog W base spare held n 3 (([v0, v1, v2, v3, v4, v5].drop 1).take (Tryd.prog.cellsOf 3)) = some x1 at g1
    rw [c1] at g1
    change DataW.trod enc Tryd.prog W base spare held n 3 [v1] = some x1 at g1
    have g2 := hg 2 _ rfl
    change DataW.trod enc Tryd.prog W base spare held n 3 (([v0, v1, v2, v3, v4, v5].drop 2).take (Tryd.prog.cellsOf 3)) = some x2 at g2
    rw [c1] at g2
    change DataW.trod enc Tryd.prog W base spare held n 3 [v2] = some x2 at g2
    have g3 := hg 3 _ rfl
    change DataW.trod enc Tryd.prog W base spare held n 3 (([v0, v1, v2, v3, v4, v5].drop 3).take (Tryd.prog.cellsOf 3)) = some x3 at g3
    rw [c1] at g3
    change DataW.trod enc Tryd.prog W base spare held n 3 [v3] = some x3 at g3
    have g4 := hg 4 _ rfl
    change DataW.trod enc Tryd.prog W base spare held n 3 (([v0, v1, v2, v3, v4, v5].drop 4).take (Tryd.prog.cellsOf 3)) = some x4 at g4
    rw [c1] at g4
    change DataW.trod enc Tryd.prog W base spare held n 3 [v4] = some x4 at g4
    have g5 := hg 5 _ rfl
    change DataW.trod enc Tryd.prog W base spare held n 3 (([v0, v1, v2, v3, v4, v5].drop 5).take (Tryd.prog.cellsOf 3)) = some x5 at g5
    rw [c1] at g5
    change DataW.trod enc Tryd.prog W base spare held n 3 [v5] = some x5 at g5
    obtain ⟨n0, e0, _, w0⟩ := DataW.trod_int Tryd.underlying3 g0
    obtain ⟨n1, e1, _, w1⟩ := DataW.trod_int Tryd.underlying3 g1
    obtain ⟨n2, e2, _, w2⟩ := DataW.trod_int Tryd.underlying3 g2
    obtain ⟨n3, e3, _, w3⟩ := DataW.trod_int Tryd.underlying3 g3
    obtain ⟨n4, e4, _, w4⟩ := DataW.trod_int Tryd.underlying3 g4
    obtain ⟨n5, e5, _, w5⟩ := DataW.trod_int Tryd.underlying3 g5
    simp only [List.cons.injEq, and_true] at e0 e1 e2 e3 e4 e5
    subst e0 e1 e2 e3 e4 e5
    exact ⟨n0, n1, n2, n3, n4, n5, rfl, w0, w1, w2, w3, w4, w5⟩

theorem own : ownKnob Tryd.prog.godebug = none := by kernel_rfl
theorem laidOut : laidOutB Tryd.prog = true := by kernel_rfl
/-- the heap that the door's own run leaves has the program's shape -/
theorem shaped0 (os : Os) (args : Array Value) : ((World.doorLaid Tryd.prog 400 os).forCall (fun _ _ => 0) ⟨#[], args, []⟩).Shaped Tryd.prog :=
  World.shaped_of_RefB (by kernel_rfl) (by kernel_rfl)
theorem looks0 : false = Tryd.prog.looks [] := by kernel_rfl
end Go.Proofs.YtbnhbfemoaokkaaDoor
