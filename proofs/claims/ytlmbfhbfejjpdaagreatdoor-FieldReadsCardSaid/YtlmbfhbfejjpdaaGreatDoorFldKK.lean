/- The document's Parse: what is read, item by item; the limits of steps and places. No walk stands here. -/
import Derived.Test.YtlmbfhbfejjpdaaGreatDoorFldJJ
import Derived.Test.YtlmbfhbfejjpdaaGreatDoorFldP
namespace Go.Proofs.YtlmbfhbfejjpdaaGreatDoor
open Go.ChangeShapes Go.WideShapes Go.RowKit Go.Shelf

/-- the step of what was read is below 100, and its places lie within 300 bytes -/
def T99 (n : Nat) : Fld.Res → Prop
  | .inr _ => True
  | .inl (x, _, _) => x.t ≤ 99 ∧ x.fa ≤ n ∧ x.sa ≤ n ∧ x.ta ≤ n
theorem rStep_99 {n : Nat} (x : Fld.It) (l : List UInt8) (p : Nat) (hp : p ≤ n) (h1 : x.fa ≤ n) (h2 : x.sa ≤ n) : T99 n (Fld.rStep x l p) := by
  unfold Fld.rStep
  split
  · trivial
  · rename_i k j h
    exact ⟨num_bd h, h1, h2, hp⟩
theorem rNums_99 {n : Nat} (x : Fld.It) (l : List UInt8) (p : Nat) (hp : p + l.length ≤ n) (h0 : x.t ≤ 99) (h1 : x.fa ≤ n) (h2 : x.sa ≤ n) (h3 : x.ta ≤ n) : T99 n (Fld.rNums x l p) := by
  unfold Fld.rNums
  split
  · rename_i h
    obtain ⟨_, _, a⟩ := Fld.at_tail h
    exact rStep_99 x _ _ (by omega) h1 h2
  · exact ⟨h0, h1, h2, h3⟩
theorem rSec_99 {n : Nat} (K : Fld.Kd) (x : Fld.It) (l : List UInt8) (p : Nat) (hp : p + l.length ≤ n) (h0 : x.t ≤ 99) (h1 : x.fa ≤ n) (h3 : x.ta ≤ n) : T99 n (Fld.rSec K x l p) := by
  unfold Fld.rSec
  split
  · trivial
  · rename_i k j h
    have := (Fld.value_len h).2
    exact rNums_99 _ _ _ (by rw [List.length_drop]; omega) h0 h1 (by show p ≤ n; omega) h3
theorem rVal_99 {n : Nat} (K : Fld.Kd) (x : Fld.It) (l : List UInt8) (p : Nat) (hp : p + l.length ≤ n) (h0 : x.t ≤ 99) (h1 : x.fa ≤ n) (h2 : x.sa ≤ n) (h3 : x.ta ≤ n) : T99 n (Fld.rVal K x l p) := by
  unfold Fld.rVal
  split
  · rename_i h
    obtain ⟨e, _, a⟩ := Fld.at_tail h
    have : l.tail.length = l.length - 1 := by rw [List.length_tail]
    exact rSec_99 K x _ _ (by omega) h0 h1 h3
  · split
    · rename_i h
      obtain ⟨_, _, a⟩ := Fld.at_tail h
      exact rStep_99 _ _ _ (by omega) h1 h2
    · exact ⟨h0, h1, h2, h3⟩
theorem item_99 {n : Nat} (K : Fld.Kd) (l : List UInt8) (p : Nat) (hp : p + l.length ≤ n) : T99 n (Fld.item K l p) := by
  unfold Fld.item
  split
  · rename_i h
    obtain ⟨_, _, a⟩ := Fld.at_tail h
    have : l.tail.length = l.length - 1 := by rw [List.length_tail]
    exact rNums_99 _ _ _ (by omega) (by show 1 ≤ 99; omega) (Nat.zero_le _) (Nat.zero_le _) (Nat.zero_le _)
  · split
    · trivial
    · rename_i k j h
      have := (Fld.value_len h).2
      exact rVal_99 K _ _ _ (by rw [List.length_drop]; omega) (by show 1 ≤ 99; omega) (by show p ≤ n; omega) (by show p ≤ n; omega) (Nat.zero_le _)
/-- an item whose step and places are within bounds -/
def Bd (n : Nat) (x : Fld.It) : Prop := x.t ≤ 99 ∧ x.fa ≤ n ∧ x.sa ≤ n ∧ x.ta ≤ n
theorem item_bd {K : Fld.Kd} {s : ByteArray} {a q : Nat} {x : Fld.It} {r : List UInt8} (ha : a ≤ s.size) (h : Fld.item K (s.data.toList.drop a) a = .inl (x, q, r)) : Bd s.size x := by
  have := item_99 (n := s.size) K (s.data.toList.drop a) a (by rw [List.length_drop, ← Lib.size_eq]; omega)
  rw [h] at this
  exact this
/-! Parse, item by item -/
theorem bad_none_nil (K : Fld.Kd) (xs : List Fld.It) : Fld.bad K (xs.take 0) = none := rfl
theorem total_nil (K : Fld.Kd) (xs : List Fld.It) : Fld.total K (xs.take 0) = 0 := rfl
theorem bad_here {K : Fld.Kd} {xs : List Fld.It} {i q : Nat} (h : Fld.bad K (xs.take i) = none) (hi : i < xs.length) (hw : Fld.wrong K xs[i] = some q) : Fld.bad K xs = some q := by
  have e : xs = xs.take (i + 1) ++ xs.drop (i + 1) := (List.take_append_drop _ _).symm
  rw [e, Fld.bad_app, List.take_succ_eq_append_getElem hi, Fld.bad_snoc, h, hw]
  rfl
theorem bad_on {K : Fld.Kd} {xs : List Fld.It} {i : Nat} (h : Fld.bad K (xs.take i) = none) (hi : i < xs.length) (hw : Fld.wrong K xs[i] = none) : Fld.bad K (xs.take (i + 1)) = none := by
  rw [List.take_succ_eq_append_getElem hi, Fld.bad_snoc, h, hw]
  rfl
theorem total_on {K : Fld.Kd} {xs : List Fld.It} {i : Nat} (hi : i < xs.length) : Fld.total K (xs.take (i + 1)) = Fld.total K (xs.take i) ||| Fld.setOf K xs[i] := by
  rw [List.take_succ_eq_append_getElem hi, Fld.total_snoc]
theorem total_lt' {K : Fld.Kd} (O : K.Ok) {xs : List Fld.It} (h : Fld.bad K xs = none) : Fld.total K xs < 2 ^ 64 := total_lt O xs (Fld.bad_none.1 h)
theorem parse_form {K : Fld.Kd} {l : List UInt8} {q : Nat} (h : (Fld.scan K l 0).2 = some q) : Fld.parse K l = (0, false, q, 10) := by unfold Fld.parse; rw [h]
theorem parse_arg {K : Fld.Kd} {l : List UInt8} {q : Nat} (h : (Fld.scan K l 0).2 = none) (hb : Fld.bad K (Fld.scan K l 0).1 = some q) : Fld.parse K l = (0, false, q, 2) := by unfold Fld.parse; rw [h]; simp only [hb]
theorem parse_ok {K : Fld.Kd} {l : List UInt8} (h : (Fld.scan K l 0).2 = none) (hb : Fld.bad K (Fld.scan K l 0).1 = none) : Fld.parse K l = (Fld.total K (Fld.scan K l 0).1, l == [42], 0, 0) := by unfold Fld.parse; rw [h]; simp only [hb]
/-- what the document's items returns, in world W -/
def ItemsRes (K : Fld.Kd) (s : ByteArray) (W : World) (v : Value) (q : Nat) (ok : Bool) : Prop :=
  ((Fld.scan K s.data.toList 0).2 = some q ∧ q ≤ s.size ∧ ok = false ∧ v = .slice none 0 0) ∨
  ((Fld.scan K s.data.toList 0).2 = none ∧ q = 0 ∧ ok = true ∧ ∃ ds, RIs K (Fld.scan K s.data.toList 0).1 ds ∧ ds.length ≤ s.size + 1 ∧ (∀ x ∈ (Fld.scan K s.data.toList 0).1, Bd s.size x) ∧
    ∃ g cap, v = .slice (some ⟨g, 0, none⟩) ds.length cap ∧ g < W.heap.size ∧ ∀ (j : Nat) u, (flatI ds)[j]? = some u → W.cell? ⟨g, j, none⟩ = some u)
end Go.Proofs.YtlmbfhbfejjpdaaGreatDoor
