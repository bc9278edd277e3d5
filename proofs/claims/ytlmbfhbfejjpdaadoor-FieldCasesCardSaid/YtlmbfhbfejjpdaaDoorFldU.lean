/- Plain facts: two texts with the same beginning; texts that are cut off at the place of an error. -/
import Derived.Test.YtlmbfhbfejjpdaaDoorFldT
namespace Go.Proofs.YtlmbfhbfejjpdaaDoor
namespace Fld

/-- two texts with the same bytes up to place k -/
structure Ag (k : Nat) (l m : List UInt8) : Prop where
  lt : k < l.length
  eq : m.take (k + 1) = l.take (k + 1)
theorem Ag.drop {k j : Nat} {l m : List UInt8} (h : Ag k l m) (hj : j ≤ k) : Ag (k - j) (l.drop j) (m.drop j) := by
  refine ⟨by rw [List.length_drop]; have := h.lt; omega, ?_⟩
  have e := congrArg (List.drop j) h.eq
  rw [List.drop_take, List.drop_take, show k + 1 - j = k - j + 1 by omega] at e
  exact e
theorem Ag.head {k : Nat} {l m : List UInt8} (h : Ag k l m) : m.head? = l.head? := by
  have e := congrArg List.head? h.eq
  rw [List.head?_take, List.head?_take, if_neg (by omega), if_neg (by omega)] at e
  exact e
theorem Ag.tail {k : Nat} {l m : List UInt8} (h : Ag k l m) (hk : 1 ≤ k) : Ag (k - 1) l.tail m.tail := by
  rw [← List.drop_one, ← List.drop_one]
  exact h.drop hk
theorem Ag.while_eq {k : Nat} {l m : List UInt8} (h : Ag k l m) (p : UInt8 → Bool) : (m.takeWhile p).take (k + 1) = (l.takeWhile p).take (k + 1) := by
  rw [List.take_takeWhile, List.take_takeWhile, h.eq]
theorem Ag.while {k : Nat} {l m : List UInt8} (h : Ag k l m) (p : UInt8 → Bool) (hl : (l.takeWhile p).length ≤ k) : m.takeWhile p = l.takeWhile p := by
  have e := h.while_eq p
  rw [List.take_of_length_le (show (l.takeWhile p).length ≤ k + 1 by omega)] at e
  have e2 := congrArg List.length e
  rw [List.length_take] at e2
  rw [List.take_of_length_le (by omega)] at e
  exact e
theorem Ag.digs {k : Nat} {l m : List UInt8} (h : Ag k l m) (hl : (digs l).length ≤ k) : digs m = digs l := by
  unfold Fld.digs at *
  have e := h.while_eq isDig
  by_cases c : 1 ≤ k
  · have e2 := congrArg (List.take 2) e
    rw [List.take_take, List.take_take, Nat.min_eq_left (by omega)] at e2
    exact e2
  · obtain rfl : k = 0 := by omega
    have : l.takeWhile isDig = [] := by
      cases q : l.takeWhile isDig with
      | nil => rfl
      | cons a b => rw [q] at hl; simp at hl
    rw [this, h.while isDig (by rw [this]; simp), this]
theorem num_none_iff {l : List UInt8} : num l = none ↔ Fld.digs l = [] := by
  unfold num
  split
  · rename_i h; exact ⟨fun _ => h, fun _ => rfl⟩
  · rename_i h; exact ⟨fun q => (by cases q), fun q => (h q).elim⟩
theorem num_some_len {l : List UInt8} {n j : Nat} (h : num l = some (n, j)) : (Fld.digs l).length = j := by
  unfold num at h
  split at h
  · cases h
  · simp only [Option.some.injEq, Prod.mk.injEq] at h
    exact h.2
theorem num_ag {k : Nat} {l m : List UInt8} (A : Ag k l m) : (num l = none → num m = none) ∧ (∀ n j, num l = some (n, j) → j ≤ k → num m = some (n, j)) := by
  constructor
  · intro h
    rw [num_none_iff] at h ⊢
    rw [A.digs (by rw [h]; simp), h]
  · intro n j h hj
    have := num_some_len h
    unfold num at h ⊢
    rw [A.digs (by omega)]
    exact h
theorem value_ag (K : Kd) {k : Nat} {l m : List UInt8} (A : Ag k l m) : (value K l = none → (∀ c, l.head? = some c → isLet c = false) → value K m = none) ∧ (∀ n j, value K l = some (n, j) → j ≤ k → value K m = some (n, j)) := by
  have h0 : lets l = [] → lets m = [] := fun h => by
    unfold lets at h ⊢
    rw [A.while _ (by rw [h]; simp), h]
  constructor
  · intro h hc
    have hl : lets l = [] := by
      unfold lets
      cases l with
      | nil => rfl
      | cons a r => rw [List.takeWhile_cons, hc a rfl]; rfl
    unfold value at h ⊢
    rw [if_pos hl] at h
    rw [if_pos (h0 hl)]
    exact (num_ag A).1 h
  · intro n j h hj
    unfold value at h ⊢
    by_cases hl : lets l = []
    · rw [if_pos hl] at h
      rw [if_pos (h0 hl)]
      exact (num_ag A).2 n j h hj
    · rw [if_neg hl] at h
      have hlen : (lets l).length = j := by
        cases e : look K.names (lets l) with
        | none => rw [e] at h; cases h
        | some i =>
          rw [e] at h
          simp only [Option.map_some, Option.some.injEq, Prod.mk.injEq] at h
          exact h.2
      have : lets m = lets l := A.while _ (by unfold lets at hlen; omega)
      rw [this, if_neg hl]
      exact h

/-- what two such texts have alike: F l p is R, F m p is R' -/
structure Alike (k : Nat) (l m : List UInt8) (p : Nat) (R R' : Res) : Prop where
  ok : ∀ x q r, R = .inl (x, q, r) → q - p ≤ k → R' = .inl (x, q, m.drop (q - p))
  err : ∀ q, R = .inr q → q - p ≤ k → (∀ c, l[q - p]? = some c → isLet c = false) → R' = .inr q
theorem Alike.up {k j : Nat} {l m l' m' : List UInt8} {p : Nat} {R R' : Res} (h : Alike (k - j) l' m' (p + j) R R') (hA : At l' (p + j) R) (hl : l' = l.drop j) (hm : m' = m.drop j) : Alike k l m p R R' := by
  subst hl hm
  refine ⟨fun x q r e hq => ?_, fun q e hq hc => ?_⟩
  · rw [e] at hA
    have a := hA.1
    rw [h.ok x q r e (by omega), List.drop_drop]
    rw [show j + (q - (p + j)) = q - p by omega]
  · rw [e] at hA
    have a := hA.1
    refine h.err q e (by omega) (fun c hc2 => hc c ?_)
    rw [List.getElem?_drop] at hc2
    rw [← hc2]
    congr 1
    omega
theorem Alike.here (k : Nat) (l m : List UInt8) (p : Nat) (x : It) : Alike k l m p (.inl (x, p, l)) (.inl (x, p, m)) :=
  ⟨fun y q r e _ => by
    simp only [Sum.inl.injEq, Prod.mk.injEq] at e
    obtain ⟨rfl, rfl, _⟩ := e
    simp, fun q e => (by cases e)⟩
theorem rStep_ag (x : It) {k : Nat} {l m : List UInt8} (A : Ag k l m) (p : Nat) : Alike k l m p (rStep x l p) (rStep x m p) := by
  obtain ⟨a, b⟩ := num_ag A
  unfold rStep
  cases h : num l with
  | none =>
    rw [a h]
    exact ⟨fun x q r e => (by cases e), fun q e _ _ => e⟩
  | some o =>
    obtain ⟨n, j⟩ := o
    refine ⟨fun y q r e hq => ?_, fun q e => (by cases e)⟩
    simp only [Sum.inl.injEq, Prod.mk.injEq] at e
    obtain ⟨rfl, rfl, _⟩ := e
    rw [b n j h (by omega)]
    show Sum.inl (_, _, m.drop j) = _
    rw [show p + j - p = j by omega]
/-- the text is too short for the sign to count -/
theorem Alike.short {k : Nat} {l m : List UInt8} {p : Nat} {R R' : Res} (h : ∀ q, (∃ x r, R = .inl (x, q, r)) ∨ R = .inr q → k < q - p) : Alike k l m p R R' :=
  ⟨fun x q r e hq => by have := h q (.inl ⟨x, r, e⟩); omega, fun q e hq => by have := h q (.inr e); omega⟩
theorem At.lt {l : List UInt8} {p : Nat} {R : Res} (h : At l p R) (q : Nat) (e : (∃ x r, R = .inl (x, q, r)) ∨ R = .inr q) : p ≤ q := by
  rcases e with ⟨x, r, rfl⟩ | rfl
  · exact h.1
  · exact h.1
theorem rNums_ag (x : It) {k : Nat} {l m : List UInt8} (A : Ag k l m) (p : Nat) : Alike k l m p (rNums x l p) (rNums x m p) := by
  unfold rNums
  rw [A.head]
  split
  · by_cases hk : 1 ≤ k
    · exact (rStep_ag x (A.tail hk) (p + 1)).up (rStep_at _ _ _) List.drop_one.symm List.drop_one.symm
    · exact Alike.short fun q e => by have := At.lt (rStep_at x l.tail (p + 1)) q e; omega
  · exact Alike.here _ _ _ _ _
theorem rSec_ag (K : Kd) (x : It) {k : Nat} {l m : List UInt8} (A : Ag k l m) (p : Nat) : Alike k l m p (rSec K x l p) (rSec K x m p) := by
  obtain ⟨a, b⟩ := value_ag K A
  unfold rSec
  cases h : value K l with
  | none =>
    refine ⟨fun x q r e => (by cases e), fun q e hq hc => ?_⟩
    obtain rfl : p = q := by simpa using e
    rw [a h (fun c hc2 => hc c (by rw [Nat.sub_self, ← List.head?_eq_getElem?]; exact hc2))]
  | some o =>
    obtain ⟨n, j⟩ := o
    by_cases hj : j ≤ k
    · rw [b n j h hj]
      exact (rNums_ag _ (A.drop hj) (p + j)).up (rNums_at _ _ _) rfl rfl
    · exact Alike.short fun q e => by have := At.lt (rNums_at { x with s := n, sa := p } (l.drop j) (p + j)) q e; omega
theorem rVal_ag (K : Kd) (x : It) {k : Nat} {l m : List UInt8} (A : Ag k l m) (p : Nat) : Alike k l m p (rVal K x l p) (rVal K x m p) := by
  unfold rVal
  rw [A.head]
  split
  · by_cases hk : 1 ≤ k
    · exact (rSec_ag K x (A.tail hk) (p + 1)).up (rSec_at _ _ _ _) List.drop_one.symm List.drop_one.symm
    · exact Alike.short fun q e => by have := At.lt (rSec_at K x l.tail (p + 1)) q e; omega
  · split
    · by_cases hk : 1 ≤ k
      · exact (rStep_ag _ (A.tail hk) (p + 1)).up (rStep_at _ _ _) List.drop_one.symm List.drop_one.symm
      · exact Alike.short fun q e => by have := At.lt (rStep_at { x with s := max x.f K.hi } l.tail (p + 1)) q e; omega
    · exact Alike.here _ _ _ _ _
theorem item_ag (K : Kd) {k : Nat} {l m : List UInt8} (A : Ag k l m) (p : Nat) : Alike k l m p (item K l p) (item K m p) := by
  obtain ⟨a, b⟩ := value_ag K A
  unfold item
  rw [A.head]
  split
  · by_cases hk : 1 ≤ k
    · exact (rNums_ag _ (A.tail hk) (p + 1)).up (rNums_at _ _ _) List.drop_one.symm List.drop_one.symm
    · exact Alike.short fun q e => by have := At.lt (rNums_at ⟨K.lo, 0, K.hi, 0, 1, 0⟩ l.tail (p + 1)) q e; omega
  · cases h : value K l with
    | none =>
      refine ⟨fun x q r e => (by cases e), fun q e hq hc => ?_⟩
      obtain rfl : p = q := by simpa using e
      rw [a h (fun c hc2 => hc c (by rw [Nat.sub_self, ← List.head?_eq_getElem?]; exact hc2))]
    | some o =>
      obtain ⟨n, j⟩ := o
      by_cases hj : j ≤ k
      · rw [b n j h hj]
        exact (rVal_ag K _ (A.drop hj) (p + j)).up (rVal_at _ _ _ _) rfl rfl
      · exact Alike.short fun q e => by have := At.lt (rVal_at K ⟨n, p, n, p, 1, 0⟩ (l.drop j) (p + j)) q e; omega
/-- a text with the same bytes up to the place of an error stops there, too -/
theorem scan_ag (K : Kd) : ∀ (n : Nat) (l m : List UInt8) (p q : Nat), l.length ≤ n → (scan K l p).2 = some q → Ag (q - p) l m → (∀ c, l[q - p]? = some c → isLet c = false) → (scan K m p).2 = some q := by
  intro n
  induction n with
  | zero => intro l m p q hl _ A; have := A.lt; omega
  | succ n ih =>
    intro l m p q hl hs A hc
    have I := item_ag K A p
    have hpq := ((scan_pl K l.length l p (Nat.le_refl _)).2.1 q hs).1
    rw [scan_go] at hs ⊢
    cases h : item K l p with
    | inr q' =>
      rw [h] at hs
      obtain rfl : q' = q := by simpa [go] using hs
      rw [I.err q' h (Nat.le_refl _) hc]
      rfl
    | inl o =>
      obtain ⟨x, q1, r⟩ := o
      have h1 := item_rest h
      have h2 := item_some h
      obtain ⟨_, _, hr⟩ := item_len h
      rw [h] at hs
      cases r with
      | nil => rw [go_end] at hs; cases hs
      | cons c r =>
        simp only [List.length_cons] at h1
        by_cases e : c = 44
        · subst e
          rw [go_comma] at hs
          have hq := (scan_pl K r.length r (q1 + 1) (Nat.le_refl _)).2.1 q hs
          have D := A.drop (j := q1 - p) (by omega)
          have hd := D.head
          rw [← hr] at D hd
          have T := D.tail (by omega)
          rw [I.ok x q1 _ h (by omega)]
          cases hm : m.drop (q1 - p) with
          | nil => rw [hm] at hd; cases hd
          | cons a m' =>
            rw [hm] at hd T
            obtain rfl : a = 44 := by simpa using hd
            rw [go_comma]
            simp only [List.tail_cons] at T
            refine ih r m' (q1 + 1) q (by omega) hs (by rw [show q - (q1 + 1) = q - p - (q1 - p) - 1 by omega]; exact T) (fun c hc2 => hc c ?_)
            have : l[q - p]? = (44 :: r)[q - p - (q1 - p)]? := by rw [hr, List.getElem?_drop]; congr 1; omega
            rw [this, show q - p - (q1 - p) = (q - (q1 + 1)) + 1 by omega, List.getElem?_cons_succ]
            exact hc2
        · rw [go_junk K x q1 c r e] at hs
          obtain rfl : q1 = q := by simpa using hs
          have D := A.drop (j := q1 - p) (Nat.le_refl _)
          have hd := D.head
          rw [← hr] at hd
          rw [I.ok x q1 _ h (Nat.le_refl _)]
          cases hm : m.drop (q1 - p) with
          | nil => rw [hm] at hd; cases hd
          | cons a m' =>
            rw [hm] at hd
            obtain rfl : a = c := by simpa using hd
            rw [go_junk K x q1 a m' e]

/-! texts that are cut off -/
theorem ag_take {k j : Nat} {l : List UInt8} (h : k < j) (hj : j ≤ l.length) (e : List UInt8) : Ag k l (l.take j ++ e) := by
  refine ⟨by omega, ?_⟩
  rw [List.take_append_of_le_length (by rw [List.length_take]; omega), List.take_take]
  congr 1
  omega
theorem drop_take_app {j i : Nat} {l e : List UInt8} (h : i ≤ j) (hj : j ≤ l.length) : (l.take j ++ e).drop i = (l.drop i).take (j - i) ++ e := by
  rw [List.drop_append_of_le_length (by rw [List.length_take]; omega), List.drop_take]
theorem digs_digs (l : List UInt8) : Fld.digs (Fld.digs l) = Fld.digs l := by
  have := digs_app (d := Fld.digs l) (r := []) (fun c hc => ?_) (digs_len l).1 noDig_nil
  · rw [List.append_nil] at this; exact this
  · unfold Fld.digs at hc
    exact List.all_eq_true.1 (List.all_takeWhile (l := l) (p := isDig)) c (List.mem_of_mem_take hc)
theorem take_digs (l : List UInt8) : l.take (Fld.digs l).length = Fld.digs l := by
  have h : Fld.digs l <+: l := (List.take_prefix _ _).trans (List.takeWhile_prefix _)
  exact (List.prefix_iff_eq_take.1 h).symm
theorem take_lets (l : List UInt8) : l.take (lets l).length = lets l := (List.prefix_iff_eq_take.1 (List.takeWhile_prefix (p := isLet) (l := l))).symm
theorem num_cut {l : List UInt8} {n j : Nat} (h : num l = some (n, j)) : num (l.take j) = some (n, j) := by
  have e := num_some_len h
  rw [← e, take_digs]
  unfold num at h ⊢
  rw [digs_digs, e]
  split at h
  · cases h
  · rename_i hd
    rw [if_neg hd]
    rw [e] at h
    exact h
theorem value_cut {K : Kd} {l : List UInt8} {n j : Nat} (h : value K l = some (n, j)) : value K (l.take j) = some (n, j) := by
  unfold value at h ⊢
  by_cases hl : lets l = []
  · rw [if_pos hl] at h
    have : lets (l.take j) = [] := by
      unfold lets at hl ⊢
      rw [← List.take_takeWhile, hl]
      simp
    rw [if_pos this]
    exact num_cut h
  · rw [if_neg hl] at h
    have hlen : (lets l).length = j := by
      cases e : look K.names (lets l) with
      | none => rw [e] at h; cases h
      | some i =>
        rw [e] at h
        simp only [Option.map_some, Option.some.injEq, Prod.mk.injEq] at h
        exact h.2
    have : lets (l.take j) = lets l := by
      rw [← hlen, take_lets]
      have e := List.takeWhile_append_of_pos (p := isLet) (l₁ := lets l) (l₂ := []) (fun c hc => List.all_eq_true.1 (List.all_takeWhile (l := l) (p := isLet)) c hc)
      rw [List.append_nil] at e
      unfold lets at e ⊢
      rw [e]
      simp
    rw [this, if_neg hl]
    exact h
/-- a part of an item ends where the text is cut off -/
def Cut (l : List UInt8) (p : Nat) (F : List UInt8 → Nat → Res) : Prop := ∀ x q r, F l p = .inl (x, q, r) → F (l.take (q - p)) p = .inl (x, q, [])
theorem rStep_cut (x : It) (l : List UInt8) (p : Nat) : Cut l p (rStep x) := by
  intro y q r h
  unfold rStep at h ⊢
  cases e : num l with
  | none => rw [e] at h; cases h
  | some o =>
    obtain ⟨n, j⟩ := o
    rw [e] at h
    simp only [Sum.inl.injEq, Prod.mk.injEq] at h
    obtain ⟨rfl, rfl, _⟩ := h
    rw [show p + j - p = j by omega, num_cut e]
    show Sum.inl (_, _, (l.take j).drop j) = _
    rw [List.drop_take, Nat.sub_self, List.take_zero]
theorem head_take {l : List UInt8} {j : Nat} (h : 1 ≤ j) : (l.take j).head? = l.head? := by rw [List.head?_take, if_neg (by omega)]
theorem tail_take {l : List UInt8} {j : Nat} : (l.take j).tail = l.tail.take (j - 1) := by rw [← List.drop_one, List.drop_take, List.drop_one]
theorem rNums_cut (x : It) (l : List UInt8) (p : Nat) : Cut l p (rNums x) := by
  intro y q r h
  unfold rNums at h ⊢
  split at h
  · rename_i c
    have := (show At l.tail (p + 1) (.inl (y, q, r)) by rw [← h]; exact rStep_at _ _ _).1
    rw [head_take (by omega), if_pos c, tail_take, show q - p - 1 = q - (p + 1) by omega]
    exact rStep_cut x _ _ y q r h
  · rename_i c
    simp only [Sum.inl.injEq, Prod.mk.injEq] at h
    obtain ⟨rfl, rfl, rfl⟩ := h
    rw [Nat.sub_self, List.take_zero]
    rfl
theorem value_take {K : Kd} {l : List UInt8} {n j i : Nat} (h : value K l = some (n, j)) (hi : j ≤ i) (hl : i ≤ l.length) : value K (l.take i) = some (n, j) := by
  rcases Nat.lt_or_ge j i with a | a
  · have := (value_ag K (ag_take (k := i - 1) (l := l) (j := i) (by have := value_len h; omega) hl [])).2 n j h (by omega)
    rw [List.append_nil] at this
    exact this
  · obtain rfl : i = j := by omega
    exact value_cut h
theorem rSec_cut (K : Kd) (x : It) (l : List UInt8) (p : Nat) : Cut l p (rSec K x) := by
  intro y q r h
  have hA := (show At l p (.inl (y, q, r)) by rw [← h]; exact rSec_at _ _ _ _).2.1
  unfold rSec at h ⊢
  cases e : value K l with
  | none => rw [e] at h; cases h
  | some o =>
    obtain ⟨n, j⟩ := o
    rw [e] at h
    have := (show At (l.drop j) (p + j) (.inl (y, q, r)) by rw [← h]; exact rNums_at _ _ _).1
    rw [value_take e (by omega) hA]
    show rNums _ ((l.take (q - p)).drop j) _ = _
    rw [List.drop_take, show q - p - j = q - (p + j) by omega]
    exact rNums_cut _ _ _ y q r h
theorem rVal_cut (K : Kd) (x : It) (l : List UInt8) (p : Nat) : Cut l p (rVal K x) := by
  intro y q r h
  unfold rVal at h ⊢
  split at h
  · rename_i c
    have := (show At l.tail (p + 1) (.inl (y, q, r)) by rw [← h]; exact rSec_at _ _ _ _).1
    rw [head_take (by omega), if_pos c, tail_take, show q - p - 1 = q - (p + 1) by omega]
    exact rSec_cut K x _ _ y q r h
  · rename_i c
    split at h
    · rename_i c2
      have := (show At l.tail (p + 1) (.inl (y, q, r)) by rw [← h]; exact rStep_at _ _ _).1
      rw [head_take (by omega), if_neg c, if_pos c2, tail_take, show q - p - 1 = q - (p + 1) by omega]
      exact rStep_cut _ _ _ y q r h
    · simp only [Sum.inl.injEq, Prod.mk.injEq] at h
      obtain ⟨rfl, rfl, rfl⟩ := h
      rw [Nat.sub_self, List.take_zero]
      rfl
theorem item_cut (K : Kd) (l : List UInt8) (p : Nat) : Cut l p (item K) := by
  intro y q r h
  have hA := (show At l p (.inl (y, q, r)) by rw [← h]; exact item_at _ _ _).2.1
  have hs := item_some h
  unfold item at h ⊢
  split at h
  · rename_i c
    rw [head_take (by omega), if_pos c, tail_take, show q - p - 1 = q - (p + 1) by omega]
    exact rNums_cut _ _ _ y q r h
  · rename_i c
    rw [head_take (by omega), if_neg c]
    cases e : value K l with
    | none => rw [e] at h; cases h
    | some o =>
      obtain ⟨n, j⟩ := o
      rw [e] at h
      have := (show At (l.drop j) (p + j) (.inl (y, q, r)) by rw [← h]; exact rVal_at _ _ _ _).1
      rw [value_take e (by omega) hA]
      show rVal K _ ((l.take (q - p)).drop j) _ = _
      rw [List.drop_take, show q - p - j = q - (p + j) by omega]
      exact rVal_cut K _ _ _ y q r h
/-- where a part of an item fails, the text that is cut off there fails, too, and with a digit behind it the part is whole -/
def Fin (l : List UInt8) (p : Nat) (F : List UInt8 → Nat → Res) : Prop := ∀ q, F l p = .inr q → F (l.take (q - p)) p = .inr q ∧ ∃ x, F (l.take (q - p) ++ [49]) p = .inl (x, q + 1, [])
theorem rStep_fin (x : It) (l : List UInt8) (p : Nat) : Fin l p (rStep x) := by
  intro q h
  unfold rStep at h
  cases e : num l with
  | none =>
    rw [e] at h
    obtain rfl : p = q := by simpa using h
    rw [Nat.sub_self, List.take_zero, List.nil_append]
    exact ⟨rfl, _, rfl⟩
  | some o => rw [e] at h; cases h
theorem rNums_fin (x : It) (l : List UInt8) (p : Nat) : Fin l p (rNums x) := by
  intro q h
  unfold rNums at h
  split at h
  · rename_i c
    have a := (show At l.tail (p + 1) (.inr q) by rw [← h]; exact rStep_at _ _ _)
    obtain ⟨lc, _, _⟩ := at_tail c
    have b := a.2
    rw [List.length_tail] at b
    obtain ⟨i1, i2⟩ := rStep_fin x l.tail (p + 1) q h
    have d := drop_take_app (i := 1) (j := q - p) (l := l) (e := [49]) (by have := a.1; omega)
    rw [List.drop_one, List.drop_one, show q - p - 1 = q - (p + 1) by omega] at d
    have hd : (l.take (q - p)).head? = some 47 := by rw [head_take (by have := a.1; omega)]; exact c
    unfold rNums
    refine ⟨?_, ?_⟩
    · rw [if_pos hd, tail_take, show q - p - 1 = q - (p + 1) by omega]
      exact i1
    · have hd2 : (l.take (q - p) ++ [49]).head? = some 47 := by rw [List.head?_append, hd]; rfl
      have := a.1
      rw [if_pos hd2, d (by omega)]
      exact i2
  · cases h
theorem value_take' {K : Kd} {l : List UInt8} {n j i : Nat} (h : value K l = some (n, j)) (hi : j < i) (hl : i ≤ l.length) : value K (l.take i ++ [49]) = some (n, j) :=
  (value_ag K (ag_take (k := i - 1) (l := l) (j := i) (by omega) hl [49])).2 n j h (by omega)
/-- what follows a value fails behind its sign alone -/
theorem rNums_late {x : It} {l : List UInt8} {p q : Nat} (h : rNums x l p = .inr q) : p < q := by
  unfold rNums at h
  split at h
  · have := (show At l.tail (p + 1) (.inr q) by rw [← h]; exact rStep_at _ _ _).1; omega
  · cases h
theorem rVal_late {K : Kd} {x : It} {l : List UInt8} {p q : Nat} (h : rVal K x l p = .inr q) : p < q := by
  unfold rVal at h
  split at h
  · have := (show At l.tail (p + 1) (.inr q) by rw [← h]; exact rSec_at _ _ _ _).1; omega
  · split at h
    · have := (show At l.tail (p + 1) (.inr q) by rw [← h]; exact rStep_at _ _ _).1; omega
    · cases h
theorem value_nil (K : Kd) : value K [] = none := rfl
theorem value_one (K : Kd) : value K [49] = some (1, 1) := by
  unfold value
  rw [if_pos (by decide)]
  decide
theorem rSec_fin (K : Kd) (x : It) (l : List UInt8) (p : Nat) : Fin l p (rSec K x) := by
  intro q h
  have hA := (show At l p (.inr q) by rw [← h]; exact rSec_at _ _ _ _).2
  unfold rSec at h ⊢
  cases e : value K l with
  | none =>
    rw [e] at h
    obtain rfl : p = q := by simpa using h
    rw [Nat.sub_self, List.take_zero, List.nil_append, value_nil, value_one]
    exact ⟨rfl, _, rfl⟩
  | some o =>
    obtain ⟨n, j⟩ := o
    rw [e] at h
    have hl := rNums_late h
    rw [value_take e (by omega) hA, value_take' e (by omega) hA]
    obtain ⟨i1, i2⟩ := rNums_fin _ (l.drop j) (p + j) q h
    have d := drop_take_app (i := j) (j := q - p) (l := l) (e := [49]) (by omega) hA
    rw [show q - (p + j) = q - p - j by omega] at i1 i2
    show rNums _ ((l.take (q - p)).drop j) _ = _ ∧ ∃ x', rNums _ ((l.take (q - p) ++ [49]).drop j) _ = _
    rw [List.drop_take, d]
    exact ⟨i1, i2⟩
theorem rVal_fin (K : Kd) (x : It) (l : List UInt8) (p : Nat) : Fin l p (rVal K x) := by
  intro q h
  have hA := (show At l p (.inr q) by rw [← h]; exact rVal_at _ _ _ _).2
  have hlt := rVal_late h
  have hh := head_take (l := l) (j := q - p) (by omega)
  have hh2 : (l.take (q - p) ++ [49]).head? = l.head? := by
    rw [List.head?_append, hh]
    cases l with
    | nil => simp at hA; omega
    | cons a r => rfl
  have d := drop_take_app (i := 1) (j := q - p) (l := l) (e := [49]) (by omega) hA
  rw [List.drop_one, List.drop_one, show q - p - 1 = q - (p + 1) by omega] at d
  unfold rVal at h ⊢
  rw [hh, hh2, tail_take, d, show q - p - 1 = q - (p + 1) by omega]
  split at h
  · rename_i c
    rw [if_pos c, if_pos c]
    exact rSec_fin K x _ _ q h
  · rename_i c
    rw [if_neg c, if_neg c]
    split at h
    · rename_i c2
      rw [if_pos c2, if_pos c2]
      exact rStep_fin _ _ _ q h
    · cases h
theorem item_fin (K : Kd) (l : List UInt8) (p : Nat) : Fin l p (item K) := by
  intro q h
  have hA := (show At l p (.inr q) by rw [← h]; exact item_at _ _ _).2
  by_cases hq : q = p
  · subst hq
    rw [Nat.sub_self, List.take_zero, List.nil_append]
    have h0 : item K [49] q = .inl (⟨1, q, 1, q, 1, 0⟩, q + 1, []) := by
      unfold item
      rw [if_neg (by decide), value_one]
      rfl
    exact ⟨by unfold item; rw [if_neg (by decide), value_nil], _, h0⟩
  · have hlt : p < q := by have := (show At l p (.inr q) by rw [← h]; exact item_at _ _ _).1; omega
    have hh := head_take (l := l) (j := q - p) (by omega)
    have hh2 : (l.take (q - p) ++ [49]).head? = l.head? := by
      rw [List.head?_append, hh]
      cases l with
      | nil => simp at hA; omega
      | cons a r => rfl
    have d := drop_take_app (i := 1) (j := q - p) (l := l) (e := [49]) (by omega) hA
    rw [List.drop_one, List.drop_one, show q - p - 1 = q - (p + 1) by omega] at d
    unfold item at h ⊢
    rw [hh, hh2, tail_take, d, show q - p - 1 = q - (p + 1) by omega]
    split at h
    · rename_i c
      rw [if_pos c, if_pos c]
      exact rNums_fin _ _ _ q h
    · rename_i c
      rw [if_neg c, if_neg c]
      cases e : value K l with
      | none =>
        rw [e] at h
        obtain rfl : p = q := by simpa using h
        exact (hq rfl).elim
      | some o =>
        obtain ⟨n, j⟩ := o
        rw [e] at h
        have hl := rVal_late h
        rw [value_take e (by omega) hA, value_take' e (by omega) hA]
        obtain ⟨i1, i2⟩ := rVal_fin K _ (l.drop j) (p + j) q h
        have d := drop_take_app (i := j) (j := q - p) (l := l) (e := [49]) (by omega) hA
        rw [show q - (p + j) = q - p - j by omega] at i1 i2
        show rVal K _ ((l.take (q - p)).drop j) _ = _ ∧ ∃ x', rVal K _ ((l.take (q - p) ++ [49]).drop j) _ = _
        rw [List.drop_take, d]
        exact ⟨i1, i2⟩
/-- up to the place of an error a text is a field, or one with a number behind it -/
theorem scan_cut (K : Kd) : ∀ (n : Nat) (l : List UInt8) (p q : Nat), l.length ≤ n → (scan K l p).2 = some q →
    (scan K (l.take (q - p)) p).2 = none ∨ ((scan K (l.take (q - p)) p).2 = some q ∧ (scan K (l.take (q - p) ++ [49]) p).2 = none) := by
  intro n
  induction n with
  | zero =>
    intro l p q hl hs
    obtain rfl : l = [] := List.length_eq_zero_iff.1 (by omega)
    have := (scan_pl K 0 [] p (by simp)).2.1 q hs
    simp at this
    obtain rfl : p = q := by omega
    rw [List.take_nil]
    refine .inr ⟨hs, ?_⟩
    rw [List.nil_append, scan_go]
    unfold item
    rw [if_neg (by decide), value_one]
    rfl
  | succ n ih =>
    intro l p q hl hs
    have hpq := (scan_pl K l.length l p (Nat.le_refl _)).2.1 q hs
    rw [scan_go] at hs
    cases h : item K l p with
    | inr q' =>
      rw [h] at hs
      obtain rfl : q' = q := by simpa [go] using hs
      obtain ⟨i1, x, i2⟩ := item_fin K l p q' h
      refine .inr ⟨?_, ?_⟩
      · rw [scan_go, i1]; rfl
      · rw [scan_go, i2]; rfl
    | inl o =>
      obtain ⟨x, q1, r⟩ := o
      have h1 := item_rest h
      have h2 := item_some h
      obtain ⟨_, _, hr⟩ := item_len h
      rw [h] at hs
      cases r with
      | nil => rw [go_end] at hs; cases hs
      | cons c r =>
        simp only [List.length_cons] at h1
        by_cases e : c = 44
        · subst e
          rw [go_comma] at hs
          have hq := (scan_pl K r.length r (q1 + 1) (Nat.le_refl _)).2.1 q hs
          have key : ∀ e, item K (l.take (q - p) ++ e) p = .inl (x, q1, 44 :: (r.take (q - (q1 + 1)) ++ e)) := by
            intro e
            have I := item_ag K (ag_take (k := q - p - 1) (j := q - p) (l := l) (by omega) (by omega) e) p
            rw [I.ok x q1 _ h (by omega), drop_take_app (by omega) (by omega), ← hr]
            rw [show q - p - (q1 - p) = (q - (q1 + 1)) + 1 by omega, List.take_succ_cons, List.cons_append]
          have k0 := key []
          rw [List.append_nil, List.append_nil] at k0
          rcases ih r (q1 + 1) q (by omega) hs with a | ⟨a, b⟩
          · exact .inl (by rw [scan_go, k0, go_comma]; exact a)
          · exact .inr ⟨by rw [scan_go, k0, go_comma]; exact a, by rw [scan_go, key [49], go_comma]; exact b⟩
        · rw [go_junk K x q1 c r e] at hs
          obtain rfl : q1 = q := by simpa using hs
          exact .inl (by rw [scan_go, item_cut K l p x q1 _ h]; rfl)
/-- the three facts about Parse -/
theorem parse_form_iff {K : Kd} {l : List UInt8} : (parse K l).2.2.2 = 10 ↔ (scan K l 0).2 = some (parse K l).2.2.1 := by
  cases h : (scan K l 0).2 with
  | some q => rw [parse_form h]; exact ⟨fun _ => rfl, fun _ => rfl⟩
  | none =>
    cases h2 : bad K (scan K l 0).1 with
    | some a => rw [parse_arg h h2]; exact ⟨fun q => (by cases q), fun q => (by cases q)⟩
    | none => rw [parse_ok h h2]; exact ⟨fun q => (by cases q), fun q => (by cases q)⟩
theorem parse_not_form {K : Kd} {l : List UInt8} (h : (scan K l 0).2 = none) : (parse K l).2.2.2 ≠ 10 := fun q => by rw [parse_form_iff, h] at q; cases q
theorem parse_same {K : Kd} {l m : List UInt8} (h : (parse K l).2.2.2 = 10) (A : Ag (parse K l).2.2.1 l m) (hc : ∀ c, l[(parse K l).2.2.1]? = some c → isLet c = false) : parse K m = (0, false, (parse K l).2.2.1, 10) :=
  parse_form (scan_ag K l.length l m 0 _ (Nat.le_refl _) (parse_form_iff.1 h) A hc)
theorem parse_ahead {K : Kd} {l : List UInt8} (h : (parse K l).2.2.2 = 10) : (parse K (l.take (parse K l).2.2.1)).2.2.2 ≠ 10 ∨
    ((parse K (l.take (parse K l).2.2.1)) = (0, false, (parse K l).2.2.1, 10) ∧ (parse K (l.take (parse K l).2.2.1 ++ [49])).2.2.2 ≠ 10) := by
  rcases scan_cut K l.length l 0 _ (Nat.le_refl _) (parse_form_iff.1 h) with a | ⟨a, b⟩
  · exact .inl (parse_not_form a)
  · exact .inr ⟨parse_form a, parse_not_form b⟩
end Fld
end Go.Proofs.YtlmbfhbfejjpdaaDoor
