/- Slices of lines and of words as loops over them read them. -/
import Derived.Test.YtjlipkklljjdjaaDoorLexW
namespace Go.Proofs.YtjlipkklljjdjaaDoor
open Go.ChangeShapes Go.RowKit Go.Shelf

/-- a slice that holds these cells -/
def Spot (W : World) (A : Option Addr) (n : Nat) (xs : List Value) : Prop := 0 < n → ∃ g, A = some ⟨g, 0, none⟩ ∧ g < W.heap.size ∧ ∀ (j : Nat) u, xs[j]? = some u → W.cell? ⟨g, j, none⟩ = some u
theorem own_any {W : World} {base : Nat} {e : TypeId} {size : Nat} {v : Value} {k : Nat} {xs : List Value} (h : W.ownsRow base e size v k xs) : ∃ A cap, v = .slice A k cap ∧ k ≤ cap ∧ Spot W A k xs := by
  rcases Nat.eq_zero_or_pos k with h0 | h0
  · rcases h.2 with ⟨rfl, hk⟩ | ⟨g, cap, cur, rfl, _, _, hc, _⟩
    · exact ⟨none, 0, by rw [hk], by omega, fun q => by omega⟩
    · exact ⟨_, _, rfl, hc, fun q => by omega⟩
  · have hc : ∀ A cap, v = .slice A k cap → k ≤ cap := by
      intro A cap e
      rcases h.2 with ⟨rfl, hk⟩ | ⟨g, cap', cur, rfl, _, _, hc, _⟩
      · omega
      · cases e; exact hc
    obtain ⟨g, cap, rfl, hlt, hcell⟩ := own_spot h h0
    exact ⟨_, _, rfl, hc _ _ rfl, fun _ => ⟨g, rfl, hlt, hcell⟩⟩
theorem Spot.below {W W' : World} {A : Option Addr} {n : Nat} {xs : List Value} (h : Spot W A n xs) (hb : Below W.heap.size W W') : Spot W' A n xs := fun hp => by
  obtain ⟨g, e, hlt, hc⟩ := h hp
  exact ⟨g, e, Nat.lt_of_lt_of_le hlt hb.size, fun j u hu => (hb.cell (p := ⟨g, j, none⟩) hlt).trans (hc j u hu)⟩
theorem Spot.drewN {W : World} {A : Option Addr} {n : Nat} {xs : List Value} (h : Spot W A n xs) (k : Nat) : Spot (W.drewN k) A n xs := h
end Go.Proofs.YtjlipkklljjdjaaDoor
