/- Plain facts on merged lists: how many times both have, and each alone. No program stands here. -/
import Derived.Test.YtihbpbdcpnpiaaaGapMb
namespace Go.Proofs.Ytihbpbdcpnpiaaa.Gp

/-- how many of the first k times of a list two others both have -/
def bothTo (m x y : List Int) (k : Nat) : Nat := ((m.take k).filter fun t => decide (t ∈ x) && decide (t ∈ y)).length
theorem bothTo_succ (m x y : List Int) {k : Nat} (h : k < m.length) : bothTo m x y (k + 1) = bothTo m x y k + if m.getD k 0 ∈ x ∧ m.getD k 0 ∈ y then 1 else 0 := by
  unfold bothTo
  rw [List.take_succ_eq_append_getElem h, List.filter_append, List.length_append]
  have e : m.getD k 0 = m[k] := by simp [h]
  rw [e]
  by_cases c : m[k] ∈ x ∧ m[k] ∈ y
  · simp [c]
  · rw [if_neg c]
    by_cases c1 : m[k] ∈ x
    · have c2 : m[k] ∉ y := fun q => c ⟨c1, q⟩
      simp [c1, c2]
    · simp [c1]
theorem count_parts (X Y : Int → Bool) : ∀ (m : List Int), (∀ t ∈ m, X t = true ∨ Y t = true) →
    m.length = (m.filter fun t => X t && !Y t).length + (m.filter fun t => Y t && !X t).length + (m.filter fun t => X t && Y t).length ∧
    (m.filter X).length = (m.filter fun t => X t && !Y t).length + (m.filter fun t => X t && Y t).length ∧
    (m.filter Y).length = (m.filter fun t => Y t && !X t).length + (m.filter fun t => X t && Y t).length
  | [], _ => by simp
  | t :: m, h => by
    have ih := count_parts X Y m (fun u hu => h u (by simp [hu]))
    have ht := h t (by simp)
    cases a : X t <;> cases b : Y t <;> simp [a, b] at ht ih ⊢ <;> omega
/-- the numbers of merged lists -/
structure Sets (x y m p q : List Int) (B : Nat) : Prop where
  m : m.length + B = x.length + y.length
  p : p.length + B = x.length
  q : q.length + B = y.length
theorem sets {x y : List Int} (hx : Inc x) (hy : Inc y) : Sets x y (ms x y) (minus x y) (minus y x) (bothTo (ms x y) x y (ms x y).length) := by
  have im := inc_ms hx hy
  have mm := mem_ms hx hy
  obtain ⟨c1, c2, c3⟩ := count_parts (fun t => decide (t ∈ x)) (fun t => decide (t ∈ y)) (ms x y) (fun t ht => by simpa using (mm t).1 ht)
  have ex : (ms x y).filter (fun t => decide (t ∈ x)) = x := Inc.uniq (im.filter _) hx fun t => by simp [mm]; exact fun h => .inl h
  have ey : (ms x y).filter (fun t => decide (t ∈ y)) = y := Inc.uniq (im.filter _) hy fun t => by simp [mm]; exact fun h => .inr h
  have ep : (ms x y).filter (fun t => decide (t ∈ x) && !decide (t ∈ y)) = minus x y := Inc.uniq (im.filter _) (hx.filter _) fun t => by
    unfold minus
    simp [mm]
    exact fun h _ => .inl h
  have eq : (ms x y).filter (fun t => decide (t ∈ y) && !decide (t ∈ x)) = minus y x := Inc.uniq (im.filter _) (hy.filter _) fun t => by
    unfold minus
    simp [mm]
    exact fun h _ => .inr h
  have eb : bothTo (ms x y) x y (ms x y).length = ((ms x y).filter fun t => decide (t ∈ x) && decide (t ∈ y)).length := by unfold bothTo; rw [List.take_length]
  rw [ex] at c2
  rw [ey] at c3
  rw [ep] at c1 c2
  rw [eq] at c1 c3
  rw [← eb] at c1 c2 c3
  exact ⟨by omega, by omega, by omega⟩
theorem mem_minus {a b : List Int} (t : Int) : t ∈ minus a b ↔ t ∈ a ∧ t ∉ b := by unfold minus; simp
end Go.Proofs.Ytihbpbdcpnpiaaa.Gp
