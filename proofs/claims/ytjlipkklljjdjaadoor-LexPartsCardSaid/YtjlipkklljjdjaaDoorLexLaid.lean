/- What the program lays at its start in strconv's table and in its error of range; closed facts of the rows. -/
import Derived.Test.YtjlipkklljjdjaaDoorRows
import Derived.Test.YtjlipkklljjdjaaDoorTie
import Derived.Test.YtjlipkklljjdjaaDoorCards
import Derived.Test.YtjlipkklljjdjaaDoorLexF
import Derived.Lib.LaidTab
import Derived.LaidLaws
import Derived.LaidMore
import Derived.OpenShut
import Derived.Stop.Joined
import Derived.Lib.SmallJoins
namespace Go.Proofs.YtjlipkklljjdjaaDoor
open Go.ChangeShapes Go.WideShapes Go.ChangeAt Go.RowKit

theorem laid_at {P : Program} {W : World} : ∀ {laid : List (String × DataW Unit)} {ps : List MemPlace}, DataW.LaidVars P W laid ps → ∀ n d, (n, d) ∈ laid →
    ∃ g t cs fuel p, P.globalNamed n = some g ∧ (P.globals[g]?).map (·.type) = some t ∧ W.var? P n = some cs ∧ DataW.trod (fun _ => ()) P W 0 (fun _ => true) false fuel t cs.toList = some (d, p)
  | [], _, _, n, d, hm => by simp at hm
  | (n', d') :: r, ps, h, n, d, hm => by
    obtain ⟨g, t, cs, fuel, p, q, h1, h2, h3, h4, h5, _⟩ := h
    rcases List.mem_cons.1 hm with e | hm
    · cases e; exact ⟨g, t, cs, fuel, p, h1, h2, h3, h4⟩
    · exact laid_at h5 n d hm
theorem tPow : (Tryd.prog.globals[3]?).map (·.type) = some 131 := by kernel_rfl
theorem tErr : (Tryd.prog.globals[2]?).map (·.type) = some 68 := by kernel_rfl
theorem errNamed : Tryd.prog.globalNamed "strconv.ErrRange" = some 2 := by kernel_rfl
theorem pow_eq : ([1, 10, 100, 1000, 10000, 100000, 1000000, 10000000, 100000000, 1000000000, 10000000000, 100000000000, 1000000000000, 10000000000000, 100000000000000, 1000000000000000, 10000000000000000, 100000000000000000, 1000000000000000000, 10000000000000000000] : List Int) = Lib.pow10Tab := by decide +kernel
theorem lay_of (laid : List (String × DataW Unit)) (W : World) (hp : (laid.all fun x => x.2.handleName?.isNone) = true) (h1 : (powName, Rows.laid_internal_strconv_uint64pow10) ∈ laid) (h2 : ("strconv.ErrRange", Rows.laid_strconv_ErrRange) ∈ laid) (h : laidMetH Tryd.prog laid W) : Lay W := by
  rw [MakeChecks.laidMetH_plain _ _ _ hp] at h
  obtain ⟨ps, hv, _⟩ := h
  refine ⟨?_, ?_⟩
  · obtain ⟨g, t, cs, fuel, p, e1, e2, e3, e4⟩ := laid_at hv _ _ h1
    obtain rfl := Option.some.inj (powNamed.symm.trans e1)
    obtain rfl := Option.some.inj (tPow.symm.trans e2)
    have hcs := Lib.cells_of_tab (zs := [1, 10, 100, 1000, 10000, 100000, 1000000, 10000000, 100000000, 1000000000, 10000000000, 100000000000, 1000000000000, 10000000000000, 100000000000000, 1000000000000000, 10000000000000000, 100000000000000000, 1000000000000000000, 10000000000000000000]) (k := .u64) Tryd.underlying131 Tryd.underlying104 (by kernel_rfl) (by kernel_rfl) e4
    rw [pow_eq] at hcs
    unfold Lib.TabIs
    rw [e3]
    congr 1
    apply Array.toList_inj.1
    rw [hcs]
  · obtain ⟨g, t, cs, fuel, p, e1, e2, e3, e4⟩ := laid_at hv _ _ h2
    obtain rfl := Option.some.inj (errNamed.symm.trans e1)
    obtain rfl := Option.some.inj (tErr.symm.trans e2)
    obtain ⟨f', u, v, hcs, _⟩ := iface_of_trod Tryd.underlying68 e4
    refine ⟨u, v, ?_⟩
    rw [World.var?_cell errNamed e3 0, ← Array.getElem?_toList, hcs]
    rfl

theorem own : ownKnob Tryd.prog.godebug = none := by kernel_rfl
theorem laidOut : laidOutB Tryd.prog = true := by kernel_rfl
/-- the heap that the door's own run leaves has the program's shape -/
theorem shaped0 (os : Os) (args : Array Value) : ((World.doorLaid Tryd.prog 400 os).forCall (fun _ _ => 0) ⟨#[], args, []⟩).Shaped Tryd.prog :=
  World.shaped_of_RefB (by kernel_rfl) (by kernel_rfl)
theorem looks0 : true = Tryd.prog.looks [] := by kernel_rfl
theorem door_met (os : Os) (args : Array Value) : laidMetH Tryd.prog Rows.lexLinesRow.laid ((World.doorLaid Tryd.prog 400 os).forCall (fun _ _ => 0) ⟨#[], args, []⟩).memory :=
  laidMetH_of_parts3 (fuel := 8) (laidMet_of_run' 8 (by kernel_rfl) (by kernel_rfl)) (by kernel_rfl) (by kernel_rfl)
end Go.Proofs.YtjlipkklljjdjaaDoor
