/- Contracts of the document's List and Count, and of the statements' comparison of two lists of numbers. -/
import Derived.Test.YtlmbfhbfejjpdaaDoorBitG
import Derived.BigQuiet
import Derived.Deep.QuietTactic
namespace Go.Proofs.YtlmbfhbfejjpdaaDoor
open Go.ChangeShapes Go.RowKit

/-- a list of the call's own, and what lay before the call is as it was -/
structure Own1 (w : World) (v : Value) (l : List Nat) (wr : World) : Prop where
  row : wr.ownsRow w.heap.size 3 1 v l.length ((asInts l).map (Value.int .i64))
  below : Below w.heap.size w wr
theorem Own1.step {w wr w1 : World} {v v' : Value} {l : List Nat} {o : Obj} {x : Nat} (h : Own1 w v l wr)
    (hown : w1.ownsRow w.heap.size 3 1 v' (l.length + 1) ((asInts l).map (Value.int .i64) ++ [.int .i64 x])) (hg : (wr.alloc o).grownBy w1 v.ownBlock) : Own1 w v' (l ++ [x]) w1 := by
  have hs := h.below.size
  refine ⟨by rw [asInts_snoc]; simpa using hown, (h.below.alloc hs o).grown hg (by simp; omega) (fun k hk => (h.row.lt k hk).1)⟩
theorem own_len {w wr : World} {v : Value} {l : List Nat} (h : Own1 w v l wr) : ∃ a cap, v = .slice a l.length cap := by
  rcases h.row.2 with ⟨rfl, h0⟩ | ⟨g, cap, cur, rfl, _⟩
  · rw [h0]; exact ⟨_, _, rfl⟩
  · exact ⟨_, _, rfl⟩
end Go.Proofs.YtlmbfhbfejjpdaaDoor
