/- Plain facts of the first times of a span: how many they are, that they are matched, one behind the other, and what comes behind the last. -/
import Derived.Test.YtbehendogcghjaaDoorMatO
namespace Go.Proofs.YtbehendogcghjaaDoor
open Go.ChangeShapes Go.RowKit

theorem cnt_split (P : Int → Prop) {a t b : Int} (h0 : a ≤ t) (h1 : t ≤ b) (hp : P t) (hn : ∀ y, a ≤ y → y < t → ¬ P y) : cntN P a (b - a + 1).toNat = 1 + cntN P (t + 1) (b - (t + 1) + 1).toNat := by
  obtain ⟨p, rfl⟩ : ∃ p : Nat, t = a + (p : Nat) := ⟨(t - a).toNat, by omega⟩
  have e : (b - a + 1).toNat = (p + 1) + (b - (a + (p : Nat) + 1) + 1).toNat := by omega
  have e2 : a + ((p + 1 : Nat) : Int) = a + (p : Nat) + 1 := by omega
  rw [e, cnt_add, cnt_yes hp, cnt_zero (fun k hk => hn _ (by omega) (by omega)), e2]
theorem cnt_none (P : Int → Prop) {a b : Int} (hn : ∀ y, a ≤ y → y ≤ b → ¬ P y) : cntN P a (b - a + 1).toNat = 0 := cnt_zero fun k hk => hn _ (by omega) (by omega)
theorem tms_len {P : Int → Prop} {b : Int} : ∀ {n : Nat} {a : Int} {l : List Int}, Tms P b n a l → l.length = min n (cntN P a (b - a + 1).toNat)
  | 0, a, l, h => by
    have : l = [] := h
    subst this; simp
  | n + 1, a, l, ⟨r, hr, h⟩ => by
    cases r with
    | none =>
      have h : l = [] := h
      subst h
      rw [cnt_none P hr]; simp
    | some t =>
      obtain ⟨l', rfl, h'⟩ := h
      obtain ⟨h0, h1, hp, hn⟩ := hr
      rw [cnt_split P h0 h1 hp hn, List.length_cons, tms_len h']
      omega
theorem tms_at {P : Int → Prop} {b : Int} : ∀ {n : Nat} {a : Int} {l : List Int}, Tms P b n a l → ∀ (i : Nat) (v : Int), l[i]? = some v → a ≤ v ∧ v ≤ b ∧ P v
  | 0, a, l, h, i, v, e => by
    have : l = [] := h
    subst this; simp at e
  | n + 1, a, l, ⟨r, hr, h⟩, i, v, e => by
    cases r with
    | none =>
      have h : l = [] := h
      subst h; simp at e
    | some t =>
      obtain ⟨l', rfl, h'⟩ := h
      obtain ⟨h0, h1, hp, hn⟩ := hr
      cases i with
      | zero =>
        obtain rfl : t = v := by simpa using e
        exact ⟨h0, h1, hp⟩
      | succ i =>
        have := tms_at h' i v (by simpa using e)
        exact ⟨by omega, this.2⟩
theorem tms_head {P : Int → Prop} {b : Int} {n : Nat} {a u : Int} {l : List Int} (h : Tms P b n a l) (e : l[0]? = some u) : Mat.Least P a b (some u) := by
  cases n with
  | zero =>
    have : l = [] := h
    subst this; simp at e
  | succ n =>
    obtain ⟨r, hr, h⟩ := h
    cases r with
    | none =>
      have h : l = [] := h
      subst h; simp at e
    | some t =>
      obtain ⟨l', rfl, h'⟩ := h
      obtain rfl : t = u := by simpa using e
      exact hr
theorem tms_up {P : Int → Prop} {b : Int} : ∀ {n : Nat} {a : Int} {l : List Int}, Tms P b n a l → ∀ (i : Nat) (v u : Int), l[i]? = some v → l[i + 1]? = some u → Mat.Least P (v + 1) b (some u)
  | 0, a, l, h, i, v, u, e, _ => by
    have : l = [] := h
    subst this; simp at e
  | n + 1, a, l, ⟨r, hr, h⟩, i, v, u, e, e' => by
    cases r with
    | none =>
      have h : l = [] := h
      subst h; simp at e
    | some t =>
      obtain ⟨l', rfl, h'⟩ := h
      cases i with
      | zero =>
        obtain rfl : t = v := by simpa using e
        exact tms_head h' (by simpa using e')
      | succ i => exact tms_up h' i v u (by simpa using e) (by simpa using e')
/-- behind the last: none, if they are fewer than asked for; one more, if the span has more -/
theorem tms_last {P : Int → Prop} {b : Int} : ∀ {n : Nat} {a : Int} {l : List Int}, Tms P b n a l → ∀ v, l.getLast? = some v → (l.length < n → ∀ y, v < y → y ≤ b → ¬ P y) ∧ (n < cntN P a (b - a + 1).toNat → ∃ y, v < y ∧ y ≤ b ∧ P y)
  | 0, a, l, h, v, e => by
    have : l = [] := h
    subst this; simp at e
  | n + 1, a, l, ⟨r, hr, h⟩, v, e => by
    cases r with
    | none =>
      have h : l = [] := h
      subst h; simp at e
    | some t =>
      obtain ⟨l', rfl, h'⟩ := h
      obtain ⟨h0, h1, hp, hn⟩ := hr
      rw [cnt_split P h0 h1 hp hn]
      cases hl : l' with
      | nil =>
        subst hl
        obtain rfl : t = v := by simpa using e
        have len := tms_len h'
        refine ⟨fun q y y1 y2 y3 => ?_, fun q => ?_⟩
        · have c : cntN P (t + 1) (b - (t + 1) + 1).toNat = 0 := by
            have q : 0 + 1 < n + 1 := q
            simp at len; omega
          rw [cnt_split_pos P (by omega) y2 y3] at c
          exact absurd c (by omega)
        · refine Classical.byContradiction fun no => ?_
          rw [cnt_none P (fun y y1 y2 y3 => no ⟨y, by omega, y2, y3⟩)] at q
          omega
      | cons c cs =>
        have e' : l'.getLast? = some v := by rw [hl] at e ⊢; simpa using e
        have := tms_last h' v e'
        rw [hl] at this
        refine ⟨fun q => this.1 (by simpa using q), fun q => this.2 (by omega)⟩
where
  cnt_split_pos (P : Int → Prop) {a y b : Int} (h0 : a ≤ y) (h1 : y ≤ b) (hp : P y) : cntN P a (b - a + 1).toNat = (cntN P a (b - a + 1).toNat - 1) + 1 := by
    have : 0 < cntN P a (b - a + 1).toNat := by
      obtain ⟨p, rfl⟩ : ∃ p : Nat, y = a + (p : Nat) := ⟨(y - a).toNat, by omega⟩
      have e : (b - a + 1).toNat = (p + 1) + (b - (a + (p : Nat) + 1) + 1).toNat := by omega
      rw [e, cnt_add, cnt_yes hp]
      omega
    omega
theorem countN_add {x : Exp.Ex} {z a b c : Int} (h0 : a ≤ b + 1) (h1 : b ≤ c) : countN x z a b + countN x z (b + 1) c = countN x z a c := by
  unfold countN
  have e : (c - a + 1).toNat = (b - a + 1).toNat + (c - (b + 1) + 1).toNat := by omega
  have e2 : a + ((b - a + 1).toNat : Int) = b + 1 := by omega
  rw [e, cnt_add, e2]
end Go.Proofs.YtbehendogcghjaaDoor
