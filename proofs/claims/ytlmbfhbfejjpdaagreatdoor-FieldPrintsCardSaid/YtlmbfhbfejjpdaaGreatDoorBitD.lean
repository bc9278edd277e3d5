/- Contracts of Turn, of package bits and of the document's: the first number that is met on the circle, and how many steps; the world stays. -/
import Derived.Test.YtlmbfhbfejjpdaaGreatDoorBitC
namespace Go.Proofs.YtlmbfhbfejjpdaaGreatDoor
open Go.ChangeShapes Go.RowKit

/-- x is met first on the circle of the numbers below z, from f on, k steps away -/
structure Trn (S f z x k : Nat) : Prop where
  lt : k < z
  at_ : (f + k) % z = x
  has : S.testBit x = true
  first : ∀ j, j < k → S.testBit ((f + j) % z) = false
def NoTrn (S z : Nat) : Prop := ∀ j, j < z → S.testBit j = false
theorem md1 {f k z : Nat} (h : f + k < z) : (f + k) % z = f + k := Nat.mod_eq_of_lt h
theorem md2 {f k z : Nat} (h : z ≤ f + k) (h2 : f + k < z + z) : (f + k) % z = f + k - z := by
  rw [Nat.mod_eq_sub_mod h, Nat.mod_eq_of_lt (by omega)]
/-- from f on in one turn each number is met -/
theorem met {f z j : Nat} (hf : f < z) (hj : j < z) : ∃ k, k < z ∧ (f + k) % z = j := by
  by_cases c : f ≤ j
  · exact ⟨j - f, by omega, by rw [md1 (by omega)]; omega⟩
  · exact ⟨j + z - f, by omega, by rw [md2 (by omega) (by omega)]; omega⟩
theorem trn_ex (S : Nat) {f z : Nat} (hf : f < z) : NoTrn S z ∨ ∃ x k, Trn S f z x k := by
  have key : ∀ n : Nat, n ≤ z → (∀ j, j < n → S.testBit ((f + j) % z) = false) ∨ ∃ x k, Trn S f z x k := by
    intro n
    induction n with
    | zero => intro _; left; intro j hj; omega
    | succ n ih =>
      intro hn
      rcases ih (by omega) with h | h
      · cases t : S.testBit ((f + n) % z) with
        | true => exact .inr ⟨_, n, by omega, rfl, t, h⟩
        | false =>
          left
          intro j hj
          by_cases e : j = n
          · subst e; exact t
          · exact h j (by omega)
      · exact .inr h
  rcases key z (by omega) with h | h
  · left
    intro j hj
    obtain ⟨k, hk, e⟩ := met hf hj
    rw [← e]; exact h k hk
  · exact .inr h
theorem upto_hit {S : Nat} (hS : S < 2 ^ 64) {z j : Nat} (h : (upto S z).testBit j = true) : S.testBit j = true ∧ j < z := by
  rw [upto_bit hS] at h
  simpa using h
theorem upto_of {S : Nat} (hS : S < 2 ^ 64) {z j : Nat} (h : S.testBit j = true) (hj : j < z) : (upto S z).testBit j = true := by
  rw [upto_bit hS, h]
  simpa using hj
/-- the way to the first number, by the next one from f on, or else from 0 on -/
theorem Trn.up {S f z x k r : Nat} (hS : S < 2 ^ 64) (t : Trn S f z x k) (h : Nxt (upto S z) f r) : x = r ∧ k = r - f ∧ f ≤ r := by
  obtain ⟨r1, r2⟩ := upto_hit hS h.has
  have fr : f ≤ r := by have := h.ge; omega
  have a : k ≤ r - f := by
    by_cases c : r - f < k
    · have := t.first _ c
      rw [md1 (by omega), show f + (r - f) = r by omega, r1] at this
      cases this
    · omega
  have x1 := t.at_
  rw [md1 (by omega)] at x1
  have := h.min x (upto_of hS t.has (by omega)) (by omega)
  omega
theorem Trn.round {S f z x k r : Nat} (hS : S < 2 ^ 64) (hf : f < z) (t : Trn S f z x k) (n : NoNxt (upto S z) f) (h : Nxt (upto S z) 0 r) : x = r ∧ k = z - f + r := by
  obtain ⟨r1, r2⟩ := upto_hit hS h.has
  have x0 := t.at_
  have kz := t.lt
  have big : z ≤ f + k := by
    by_cases c : f + k < z
    · rw [md1 c] at x0
      have := n x (upto_of hS t.has (by omega))
      omega
    · omega
  rw [md2 big (by omega)] at x0
  have a := h.min x (upto_of hS t.has (by omega)) (by omega)
  by_cases c : r < x
  · have := t.first (r + z - f) (by omega)
    have rf : r < f := by have := n r h.has; omega
    rw [md2 (by omega) (by omega), show f + (r + z - f) - z = r by omega, r1] at this
    cases this
  · omega
theorem NoTrn.none {S z : Nat} (hS : S < 2 ^ 64) (h : NoTrn S z) (v : Int) : NoNxt (upto S z) v := by
  intro j hj
  obtain ⟨a, b⟩ := upto_hit hS hj
  rw [h j b] at a
  cases a
theorem Trn.some {S f z x k : Nat} (hS : S < 2 ^ 64) (hf : f < z) (t : Trn S f z x k) (n : NoNxt (upto S z) 0) : False := by
  have := n x (upto_of hS t.has (by rw [← t.at_]; exact Nat.mod_lt _ (by omega)))
  omega

def IsTurn (S : Nat) (v s a n : Int) (b : Bool) : Prop :=
  (¬ (1 ≤ s ∧ s ≤ 64 ∧ 0 ≤ v ∧ v < s) ∧ a = 0 ∧ n = 0 ∧ b = false) ∨
  ∃ f z : Nat, v = f ∧ s = z ∧ z ≤ 64 ∧ f < z ∧ ((NoTrn S z ∧ a = 0 ∧ n = 0 ∧ b = false) ∨ ∃ x k : Nat, Trn S f z x k ∧ a = x ∧ n = k ∧ b = true)
theorem isTurn_ex (S : Nat) (v s : Int) : ∃ a n b, IsTurn S v s a n b := by
  by_cases c : 1 ≤ s ∧ s ≤ 64 ∧ 0 ≤ v ∧ v < s
  · obtain ⟨f, rfl⟩ := Int.eq_ofNat_of_zero_le c.2.2.1
    obtain ⟨z, rfl⟩ := Int.eq_ofNat_of_zero_le (show 0 ≤ s by omega)
    have hf : f < z := by omega
    rcases trn_ex S hf with h | ⟨x, k, h⟩
    · exact ⟨_, _, _, .inr ⟨f, z, rfl, rfl, by omega, hf, .inl ⟨h, rfl, rfl, rfl⟩⟩⟩
    · exact ⟨_, _, _, .inr ⟨f, z, rfl, rfl, by omega, hf, .inr ⟨x, k, h, rfl, rfl, rfl⟩⟩⟩
  · exact ⟨_, _, _, .inl ⟨c, rfl, rfl, rfl⟩⟩

end Go.Proofs.YtlmbfhbfejjpdaaGreatDoor
