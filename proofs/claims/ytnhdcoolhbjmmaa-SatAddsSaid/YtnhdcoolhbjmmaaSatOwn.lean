/- Sums of slices that the call itself has made. -/
import Derived.Test.YtnhdcoolhbjmmaaSatH
import Derived.OwnWalk
import Derived.Maps.AppendAt
namespace Go.Proofs.Ytnhdcoolhbjmmaa
open Go.ChangeShapes Go.WideShapes Go.ChangeAt Go.RowKit

theorem lt_of_cell {w : World} {b o : Nat} {v : Value} (h : w.cell? ⟨b, o, none⟩ = some v) : b < w.heap.size := by
  by_cases k : b < w.heap.size
  · exact k
  · simp [World.cell?, Array.getElem?_eq_none (show w.heap.size ≤ b by omega)] at h
theorem info2 : (Try.prog.info? 2).map (fun i => (i.zero, i.size, i.bytes)) = some (some (.int .i64 0), 1, 8) := by kernel_rfl

/-- the sum of a slice of the call's own -/
theorem sum_own (base : Nat) (v : Value) (n : Nat) (zs : List Int) (w : World) (ho : w.ownsRow base 2 1 v n (zs.map (Value.int .i64))) (hn : n ≤ 9223372036854775807) :
    Calls Try.prog 33 #[v] w fun e w' => e = .returned (.int .i64 (sumS zs)) ∧ w = w' := by
  obtain ⟨hl, h⟩ := ho
  simp at hl
  subst hl
  rcases h with ⟨rfl, h0⟩ | ⟨g, cap, cur, rfl, hg, hb, h1, h2, h3, h4⟩
  · have : zs = [] := by cases zs with | nil => rfl | cons _ _ => simp at h0
    subst this
    exact sum_nil none 0 w
  · by_cases z0 : zs.length = 0
    · have : zs = [] := List.eq_nil_of_length_eq_zero z0
      subst this
      exact sum_nil _ _ w
    · have := sum_row g 0 zs.length cap zs w (by omega) (Nat.le_refl _) hn ?_
      · rwa [List.take_length] at this
      · intro i hi
        have ho : w.ownsRow base 2 1 (.slice (some ⟨g, 0, none⟩) zs.length cap) zs.length (zs.map (Value.int .i64)) := ⟨by simp, .inr ⟨g, cap, cur, rfl, hg, hb, h1, h2, h3, h4⟩⟩
        rw [Nat.zero_add, ho.cellAt i (by omega)]
        simp [hi]

end Go.Proofs.Ytnhdcoolhbjmmaa
