/- The examples of the chapter hold: the statements' works returns true; nothing in memory that was there changes. -/
import Derived.Test.YtljackjcgfaanaaGreatDoorGBlkD
import Derived.Test.YtljackjcgfaanaaGreatDoorBlkG
import Derived.Lib.SliceRun
namespace Go.Proofs.YtljackjcgfaanaaGreatDoor.Bk
end Go.Proofs.YtljackjcgfaanaaGreatDoor.Bk
namespace Go.Proofs.YtljackjcgfaanaaGreatDoor.Bo
open Go.ChangeShapes Go.RowKit

/-- a slice written out -/
theorem rowS_lit (w : World) (l : List (Int × Int)) (n : Nat) (hn : n = l.length) (cs : Array Value) (hc : cs.toList = l.flatMap encS) (hl : l.length ≤ 1000000) (c : Nat) : RowS (w.alloc (.cells cs 48)) (.slice (some ⟨w.heap.size, 0, none⟩) n c) l := by
  subst hn
  have e : ∀ i, cs[i]? = (l.flatMap encS)[i]? := fun i => by rw [← hc, Array.getElem?_toList]
  have hw : (w.alloc (.cells cs 48)).heap[w.heap.size]? = some (.cells cs 48) := heap_alloc_new w _
  refine ⟨hl, (fun n c h => by cases h), _, _, rfl, fun j hj => ⟨w.heap.size, 0, rfl, ?_, ?_⟩⟩
  · simp only [World.cell?, hw, Nat.zero_add]
    rw [e]
    exact (flatS_get l j hj).1
  · simp only [World.cell?, hw, Nat.zero_add]
    rw [e]
    exact (flatS_get l j hj).2
end Go.Proofs.YtljackjcgfaanaaGreatDoor.Bo
