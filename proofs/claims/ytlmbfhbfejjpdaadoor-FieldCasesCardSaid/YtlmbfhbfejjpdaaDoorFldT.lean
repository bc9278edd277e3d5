/- Plain facts: a comma behind a field; places; what Parse returns for two fields, and for a normal one. -/
import Derived.Test.YtlmbfhbfejjpdaaDoorFldS
namespace Go.Proofs.YtlmbfhbfejjpdaaDoor
namespace Fld

/-! a comma behind a text -/
theorem while_stop {p : UInt8 → Bool} {c : UInt8} (h : p c = false) : ∀ (l t : List UInt8), (l ++ c :: t).takeWhile p = l.takeWhile p
  | [], t => by rw [List.nil_append, List.takeWhile_cons, h]; rfl
  | a :: l, t => by rw [List.cons_append, List.takeWhile_cons, List.takeWhile_cons, while_stop h l t]
theorem digs_comma (l t : List UInt8) : digs (l ++ 44 :: t) = digs l := by unfold digs; rw [while_stop (by decide)]
theorem lets_comma (l t : List UInt8) : lets (l ++ 44 :: t) = lets l := by unfold lets; rw [while_stop (by decide)]
theorem num_comma (l t : List UInt8) : num (l ++ 44 :: t) = num l := by unfold num; rw [digs_comma]
theorem value_comma (K : Kd) (l t : List UInt8) : value K (l ++ 44 :: t) = value K l := by unfold value; rw [lets_comma, num_comma]
theorem head_comma {l t : List UInt8} {k : UInt8} (hk : k ≠ 44) : (l ++ 44 :: t).head? = some k ↔ l.head? = some k := by
  cases l with
  | nil => simp [hk.symm]
  | cons a l => simp
theorem tail_comma {l t : List UInt8} {k : UInt8} (h : l.head? = some k) : (l ++ 44 :: t).tail = l.tail ++ 44 :: t := by
  cases l with
  | nil => cases h
  | cons a l => rfl
/-- more stands behind it -/
def Res.ext (m : List UInt8) : Res → Res
  | .inl (x, q, r) => .inl (x, q, r ++ m)
  | .inr q => .inr q
theorem rStep_comma (x : It) (l t : List UInt8) (p : Nat) : rStep x (l ++ 44 :: t) p = (rStep x l p).ext (44 :: t) := by
  unfold rStep
  rw [num_comma]
  cases h : num l with
  | none => rfl
  | some o =>
    obtain ⟨n, k⟩ := o
    show Sum.inl (_, _, (l ++ 44 :: t).drop k) = Sum.inl (_, _, l.drop k ++ 44 :: t)
    rw [List.drop_append_of_le_length (num_len h).2.1]
theorem rNums_comma (x : It) (l t : List UInt8) (p : Nat) : rNums x (l ++ 44 :: t) p = (rNums x l p).ext (44 :: t) := by
  unfold rNums
  by_cases h : l.head? = some 47
  · rw [if_pos ((head_comma (by decide)).2 h), if_pos h, tail_comma h, rStep_comma]
  · rw [if_neg (fun q => h ((head_comma (by decide)).1 q)), if_neg h]
    rfl
theorem rSec_comma (K : Kd) (x : It) (l t : List UInt8) (p : Nat) : rSec K x (l ++ 44 :: t) p = (rSec K x l p).ext (44 :: t) := by
  unfold rSec
  rw [value_comma]
  cases h : value K l with
  | none => rfl
  | some o =>
    obtain ⟨n, k⟩ := o
    show rNums _ ((l ++ 44 :: t).drop k) _ = (rNums _ (l.drop k) _).ext _
    rw [List.drop_append_of_le_length (value_len h).2, rNums_comma]
theorem rVal_comma (K : Kd) (x : It) (l t : List UInt8) (p : Nat) : rVal K x (l ++ 44 :: t) p = (rVal K x l p).ext (44 :: t) := by
  unfold rVal
  by_cases h : l.head? = some 45
  · rw [if_pos ((head_comma (by decide)).2 h), if_pos h, tail_comma h, rSec_comma]
  · rw [if_neg (fun q => h ((head_comma (by decide)).1 q)), if_neg h]
    by_cases h2 : l.head? = some 47
    · rw [if_pos ((head_comma (by decide)).2 h2), if_pos h2, tail_comma h2, rStep_comma]
    · rw [if_neg (fun q => h2 ((head_comma (by decide)).1 q)), if_neg h2]
      rfl
theorem item_comma (K : Kd) (l t : List UInt8) (p : Nat) : item K (l ++ 44 :: t) p = (item K l p).ext (44 :: t) := by
  unfold item
  by_cases h : l.head? = some 42
  · rw [if_pos ((head_comma (by decide)).2 h), if_pos h, tail_comma h, rNums_comma]
  · rw [if_neg (fun q => h ((head_comma (by decide)).1 q)), if_neg h, value_comma]
    cases h : value K l with
    | none => rfl
    | some o =>
      obtain ⟨n, k⟩ := o
      show rVal K _ ((l ++ 44 :: t).drop k) _ = (rVal K _ (l.drop k) _).ext _
      rw [List.drop_append_of_le_length (value_len h).2, rVal_comma]
/-- what is left of a text behind an item -/
theorem item_rest {K : Kd} {l r : List UInt8} {p q : Nat} {x : It} (h : item K l p = .inl (x, q, r)) : q + r.length = p + l.length ∧ p ≤ q := by
  obtain ⟨a, b, rfl⟩ := item_len h
  rw [List.length_drop]
  omega
/-- an item has at least one byte -/
theorem item_some {K : Kd} {l r : List UInt8} {p q : Nat} {x : It} (h : item K l p = .inl (x, q, r)) : p < q := by
  have up : ∀ {l' : List UInt8} {p' : Nat} {R : Res}, At l' p' R → R = .inl (x, q, r) → p' ≤ q := fun a e => by rw [e] at a; exact a.1
  unfold item at h
  split at h
  · exact up (rNums_at _ _ _) h
  · split at h
    · cases h
    · rename_i n k hv
      have := value_len hv
      have := up (rVal_at K _ _ _) h
      omega
theorem scan_app (K : Kd) (t : List UInt8) : ∀ (n : Nat) (l : List UInt8) (p : Nat), l.length ≤ n →
    ((scan K l p).2 = none → scan K (l ++ 44 :: t) p = ((scan K l p).1 ++ (scan K t (p + l.length + 1)).1, (scan K t (p + l.length + 1)).2)) ∧
    (∀ q, (scan K l p).2 = some q → (scan K (l ++ 44 :: t) p).2 = some q) := by
  intro n
  induction n with
  | zero =>
    intro l p hl
    obtain rfl : l = [] := List.length_eq_zero_iff.1 (by omega)
    have e : ∀ l, item K [] p ≠ .inl l := by
      rintro ⟨x, q, r⟩ e
      have := item_some e
      have := item_rest e
      simp at this
      omega
    have e2 := item_comma K [] t p
    rw [scan_go, scan_go K ([] ++ 44 :: t), e2]
    cases h : item K [] p with
    | inl o => exact (e o h).elim
    | inr q => exact ⟨fun q => (by cases q), fun q' hq => hq⟩
  | succ n ih =>
    intro l p hl
    have e2 := item_comma K l t p
    rw [scan_go, scan_go K (l ++ 44 :: t), e2]
    cases h : item K l p with
    | inr q => exact ⟨fun q => (by cases q), fun q' hq => hq⟩
    | inl o =>
      obtain ⟨x, q, r⟩ := o
      have h1 := item_rest h
      have h2 := item_some h
      show (_ → go K (.inl (x, q, r ++ 44 :: t)) = _) ∧ (∀ q', _ → (go K (.inl (x, q, r ++ 44 :: t))).2 = some q')
      cases r with
      | nil =>
        rw [List.nil_append, go_comma, go_end]
        refine ⟨fun _ => ?_, fun q' hq => by cases hq⟩
        simp only [List.length_nil, Nat.add_zero] at h1
        rw [← h1.1]
        rfl
      | cons c r =>
        rw [List.cons_append]
        by_cases hc : c = 44
        · subst hc
          rw [go_comma, go_comma]
          simp only [List.length_cons] at h1
          obtain ⟨i1, i2⟩ := ih r (q + 1) (by omega)
          refine ⟨fun hn => ?_, fun q' hq => i2 q' hq⟩
          have := i1 hn
          rw [show q + 1 + r.length + 1 = p + l.length + 1 by omega] at this
          rw [this]
          rfl
        · rw [go_junk K x q c _ hc, go_junk K x q c _ hc]
          exact ⟨fun q => (by cases q), fun q' hq => hq⟩

/-! a field that begins later -/
inductive All2 {α : Type} (R : α → α → Prop) : List α → List α → Prop
  | nil : All2 R [] []
  | cons {a b : α} {l m : List α} (h : R a b) (r : All2 R l m) : All2 R (a :: l) (b :: m)
structure Sh (K : Kd) (d : Nat) (x x' : It) : Prop where
  f : x'.f = x.f
  s : x'.s = x.s
  t : x'.t = x.t
  at_ : (x'.fa = x.fa + d ∧ x'.sa = x.sa + d) ∨ (x.f = K.lo ∧ x.s = K.hi)
  ta : x'.ta = x.ta + d ∨ x.t ≠ 0
inductive ShR (K : Kd) (d : Nat) : Res → Res → Prop
  | ok {x x' : It} {q : Nat} {r : List UInt8} (h : Sh K d x x') : ShR K d (.inl (x, q, r)) (.inl (x', q + d, r))
  | err {q : Nat} : ShR K d (.inr q) (.inr (q + d))
theorem ShR.ok' {K : Kd} {d : Nat} {x x' : It} {q q' : Nat} {r : List UInt8} (h : Sh K d x x') (e : q' = q + d) : ShR K d (.inl (x, q, r)) (.inl (x', q', r)) := by subst e; exact .ok h
theorem rStep_sh {K : Kd} {d : Nat} {x x' : It} (h : Sh K d x x') (l : List UInt8) (p p' : Nat) (e : p' = p + d) : ShR K d (rStep x l p) (rStep x' l p') := by
  subst e
  unfold rStep
  cases num l with
  | none => exact .err
  | some o =>
    obtain ⟨n, k⟩ := o
    exact .ok' ⟨h.f, h.s, rfl, h.at_, .inl rfl⟩ (by omega)
theorem rNums_sh {K : Kd} {d : Nat} {x x' : It} (h : Sh K d x x') (l : List UInt8) (p p' : Nat) (e : p' = p + d) : ShR K d (rNums x l p) (rNums x' l p') := by
  unfold rNums
  split
  · exact rStep_sh h _ _ _ (by omega)
  · exact .ok' h e
theorem rSec_sh {K : Kd} {d : Nat} {x x' : It} (h : Sh K d x x') (hf : x'.fa = x.fa + d) (l : List UInt8) (p p' : Nat) (e : p' = p + d) : ShR K d (rSec K x l p) (rSec K x' l p') := by
  unfold rSec
  cases value K l with
  | none => subst e; exact .err
  | some o =>
    obtain ⟨n, k⟩ := o
    exact rNums_sh (x := { x with s := n, sa := p }) (x' := { x' with s := n, sa := p' }) ⟨h.f, rfl, h.t, .inl ⟨hf, e⟩, h.ta⟩ _ _ _ (by omega)
theorem rVal_sh {K : Kd} {d : Nat} {x x' : It} (h : Sh K d x x') (hf : x'.fa = x.fa + d) (hs : x'.sa = x.sa + d) (l : List UInt8) (p p' : Nat) (e : p' = p + d) : ShR K d (rVal K x l p) (rVal K x' l p') := by
  unfold rVal
  split
  · exact rSec_sh h hf _ _ _ (by omega)
  · split
    · refine rStep_sh (x := { x with s := max x.f K.hi }) (x' := { x' with s := max x'.f K.hi }) ⟨h.f, ?_, h.t, .inl ⟨hf, hs⟩, h.ta⟩ _ _ _ (by omega)
      show max x'.f K.hi = max x.f K.hi
      rw [h.f]
    · exact .ok' h e
theorem item_sh (K : Kd) (d : Nat) (l : List UInt8) (p p' : Nat) (e : p' = p + d) : ShR K d (item K l p) (item K l p') := by
  unfold item
  split
  · exact rNums_sh (x := ⟨K.lo, 0, K.hi, 0, 1, 0⟩) (x' := ⟨K.lo, 0, K.hi, 0, 1, 0⟩) ⟨rfl, rfl, rfl, .inr ⟨rfl, rfl⟩, .inr Nat.one_ne_zero⟩ _ _ _ (by omega)
  · cases value K l with
    | none => subst e; exact .err
    | some o =>
      obtain ⟨n, k⟩ := o
      exact rVal_sh (x := ⟨n, p, n, p, 1, 0⟩) (x' := ⟨n, p', n, p', 1, 0⟩) ⟨rfl, rfl, rfl, .inl ⟨e, e⟩, .inr Nat.one_ne_zero⟩ e e _ _ _ (by omega)
theorem scan_sh (K : Kd) (d : Nat) : ∀ (n : Nat) (l : List UInt8) (p p' : Nat), l.length ≤ n → p' = p + d → All2 (Sh K d) (scan K l p).1 (scan K l p').1 ∧ (scan K l p').2 = (scan K l p).2.map (· + d) := by
  intro n
  induction n with
  | zero =>
    intro l p p' hl e
    have hs := item_sh K d l p p' e
    rw [scan_go, scan_go K l p']
    cases h : item K l p with
    | inl o =>
      obtain ⟨x, q, r⟩ := o
      have := item_some h
      have := item_rest h
      omega
    | inr q =>
      rw [h] at hs
      generalize item K l p' = R at hs
      cases hs
      exact ⟨.nil, rfl⟩
  | succ n ih =>
    intro l p p' hl e
    have hs := item_sh K d l p p' e
    rw [scan_go, scan_go K l p']
    cases h : item K l p with
    | inr q =>
      rw [h] at hs
      generalize item K l p' = R at hs
      cases hs
      exact ⟨.nil, rfl⟩
    | inl o =>
      obtain ⟨x, q, r⟩ := o
      have h1 := item_rest h
      have h2 := item_some h
      rw [h] at hs
      generalize item K l p' = R at hs
      cases hs with
      | ok hx =>
        cases r with
        | nil => exact ⟨.cons hx .nil, rfl⟩
        | cons c r =>
          by_cases hc : c = 44
          · subst hc
            simp only [List.length_cons] at h1
            obtain ⟨i1, i2⟩ := ih r (q + 1) (q + d + 1) (by omega) (by omega)
            rw [go_comma, go_comma]
            exact ⟨.cons hx i1, i2⟩
          · rw [go_junk K _ q c _ hc, go_junk K _ _ c _ hc]
            exact ⟨.nil, rfl⟩
theorem wrong_sh {K : Kd} (O : K.Ok) {d : Nat} {x x' : It} (h : Sh K d x x') : wrong K x' = (wrong K x).map (· + d) := by
  obtain ⟨f, s, t, a, b⟩ := h
  unfold wrong
  rw [f, s, t]
  have hl : x.f = K.lo → has K x.f := fun e => .inl ⟨by omega, by have := O.le; omega⟩
  have hh : x.s = K.hi → has K x.s := fun e => .inl ⟨by have := O.le; omega, by omega⟩
  have hle := O.le
  split
  · rename_i c
    rcases a with ⟨a, _⟩ | ⟨a, _⟩
    · rw [a]; rfl
    · exact (c (hl a)).elim
  · split
    · rename_i c
      rcases a with ⟨_, a⟩ | ⟨_, a⟩
      · rw [a]; rfl
      · exact (c (hh a)).elim
    · split
      · rename_i c
        rcases a with ⟨a, _⟩ | ⟨a1, a2⟩
        · rw [a]; rfl
        · omega
      · split
        · rename_i c
          rcases b with b | b
          · rw [b]; rfl
          · exact (b c).elim
        · rfl
theorem bad_sh {K : Kd} (O : K.Ok) {d : Nat} {xs ys : List It} (h : All2 (Sh K d) xs ys) : bad K ys = (bad K xs).map (· + d) := by
  unfold bad
  induction h with
  | nil => rfl
  | cons a r ih =>
    rw [List.findSome?_cons, List.findSome?_cons, wrong_sh O a, ih]
    cases wrong K _ <;> rfl
theorem total_sh {K : Kd} {d : Nat} {xs ys : List It} (h : All2 (Sh K d) xs ys) : total K ys = total K xs := by
  unfold total
  generalize 0 = A
  induction h generalizing A with
  | nil => rfl
  | cons a r ih =>
    rw [List.foldl_cons, List.foldl_cons]
    rename_i x y _ _
    have e : setOf K y = setOf K x := by unfold setOf; rw [a.f, a.s, a.t]
    rw [e, ih]

/-! what Parse returns for two fields -/
theorem parse_err' (K : Kd) (l : List UInt8) : (parse K l).2.2.2 = 0 ∨ (parse K l).2.2.2 = 2 ∨ (parse K l).2.2.2 = 10 := by
  unfold parse
  split
  · exact .inr (.inr rfl)
  · split
    · exact .inr (.inl rfl)
    · exact .inl rfl
/-- the three ways of Parse -/
theorem parse_form {K : Kd} {l : List UInt8} {q : Nat} (h : (scan K l 0).2 = some q) : parse K l = (0, false, q, 10) := by unfold parse; rw [h]
theorem parse_arg {K : Kd} {l : List UInt8} {a : Nat} (h : (scan K l 0).2 = none) (hb : bad K (scan K l 0).1 = some a) : parse K l = (0, false, a, 2) := by unfold parse; rw [h]; simp only [hb]
theorem parse_ok {K : Kd} {l : List UInt8} (h : (scan K l 0).2 = none) (hb : bad K (scan K l 0).1 = none) : parse K l = (total K (scan K l 0).1, l == [42], 0, 0) := by unfold parse; rw [h]; simp only [hb]
def two (P Q : Nat × Bool × Nat × Nat) (n : Nat) : Nat × Bool × Nat × Nat :=
  if P.2.2.2 = 10 then (0, false, P.2.2.1, 10) else if Q.2.2.2 = 10 then (0, false, Q.2.2.1 + (n + 1), 10) else if P.2.2.2 = 2 then (0, false, P.2.2.1, 2)
  else if Q.2.2.2 = 2 then (0, false, Q.2.2.1 + (n + 1), 2) else (P.1 ||| Q.1, false, 0, 0)
theorem parse_two {K : Kd} (O : K.Ok) (l t : List UInt8) : parse K (l ++ 44 :: t) = two (parse K l) (parse K t) l.length := by
  obtain ⟨a1, a2⟩ := scan_app K t l.length l 0 (Nat.le_refl _)
  obtain ⟨b1, b2⟩ := scan_sh K (l.length + 1) t.length t 0 (l.length + 1) (Nat.le_refl _) (by omega)
  rw [Nat.zero_add] at a1
  cases h1 : (scan K l 0).2 with
  | some q => rw [parse_form h1, parse_form (a2 q h1)]; rfl
  | none =>
    have e := a1 h1
    cases h2 : (scan K t 0).2 with
    | some q =>
      rw [h2] at b2
      rw [parse_form h2, parse_form (q := q + (l.length + 1)) (by rw [e]; exact b2)]
      unfold two
      rw [if_neg, if_pos rfl]
      intro c
      cases hb : bad K (scan K l 0).1 with
      | none => rw [parse_ok h1 hb] at c; cases c
      | some a => rw [parse_arg h1 hb] at c; cases c
    | none =>
      rw [h2] at b2
      have e2 : (scan K (l ++ 44 :: t) 0).2 = none := by rw [e]; exact b2
      have e1 : (scan K (l ++ 44 :: t) 0).1 = (scan K l 0).1 ++ (scan K t (l.length + 1)).1 := by rw [e]
      have hb : bad K (scan K (l ++ 44 :: t) 0).1 = (bad K (scan K l 0).1).or ((bad K (scan K t 0).1).map (· + (l.length + 1))) := by rw [e1, bad_app, bad_sh O b1]
      cases g1 : bad K (scan K l 0).1 with
      | some a =>
        rw [g1] at hb
        rw [parse_arg h1 g1, parse_arg e2 hb]
        cases g2 : bad K (scan K t 0).1 with
        | some a2 => rw [parse_arg h2 g2]; rfl
        | none => rw [parse_ok h2 g2]; rfl
      | none =>
        rw [g1] at hb
        cases g2 : bad K (scan K t 0).1 with
        | some a2 =>
          rw [g2] at hb
          rw [parse_arg h2 g2, parse_ok h1 g1, parse_arg e2 hb]
          rfl
        | none =>
          rw [g2] at hb
          rw [parse_ok h2 g2, parse_ok h1 g1, parse_ok e2 hb, e1, total_app, total_sh b1]
          have : (l ++ 44 :: t == [42]) = false := by
            rw [beq_eq_false_iff_ne]
            intro q
            cases l with
            | nil => cases q
            | cons a l => simp at q
          rw [this]
          rfl

/-! places -/
def Pl (x : It) (q : Nat) : Prop := x.fa < q ∧ x.sa < q ∧ x.ta < q
def PlR : Res → Prop
  | .inl (x, q, _) => Pl x q
  | .inr _ => True
theorem Pl.mono {x : It} {p q : Nat} (h : Pl x p) (e : p ≤ q) : Pl x q := ⟨by have := h.1; omega, by have := h.2.1; omega, by have := h.2.2; omega⟩
theorem rStep_pl {x : It} {p : Nat} (h : Pl x p) (l : List UInt8) : PlR (rStep x l p) := by
  unfold rStep
  cases e : num l with
  | none => trivial
  | some o =>
    obtain ⟨n, k⟩ := o
    have := num_len e
    exact ⟨by have := h.1; show x.fa < p + k; omega, by have := h.2.1; show x.sa < p + k; omega, by show p < p + k; omega⟩
theorem rNums_pl {x : It} {p : Nat} (h : Pl x p) (l : List UInt8) : PlR (rNums x l p) := by
  unfold rNums
  split
  · exact rStep_pl (h.mono (by omega)) _
  · exact h
theorem rSec_pl (K : Kd) {x : It} {p : Nat} (h : Pl x p) (l : List UInt8) : PlR (rSec K x l p) := by
  unfold rSec
  cases e : value K l with
  | none => trivial
  | some o =>
    obtain ⟨n, k⟩ := o
    have := value_len e
    exact rNums_pl ⟨by have := h.1; show x.fa < p + k; omega, by show p < p + k; omega, by have := h.2.2; show x.ta < p + k; omega⟩ _
theorem rVal_pl (K : Kd) {x : It} {p : Nat} (h : Pl x p) (l : List UInt8) : PlR (rVal K x l p) := by
  unfold rVal
  split
  · exact rSec_pl K (h.mono (by omega)) _
  · split
    · exact rStep_pl (show Pl { x with s := max x.f K.hi } (p + 1) from h.mono (by omega)) _
    · exact h
theorem item_pl {K : Kd} {l r : List UInt8} {p q : Nat} {x : It} (h : item K l p = .inl (x, q, r)) : Pl x q := by
  have key : PlR (item K l p) := by
    unfold item
    split
    · exact rNums_pl ⟨by show 0 < p + 1; omega, by show 0 < p + 1; omega, by show 0 < p + 1; omega⟩ _
    · cases e : value K l with
      | none => trivial
      | some o =>
        obtain ⟨n, k⟩ := o
        have := value_len e
        exact rVal_pl K ⟨by show p < p + k; omega, by show p < p + k; omega, by show 0 < p + k; omega⟩ _
  rw [h] at key
  exact key
theorem scan_pl (K : Kd) : ∀ (n : Nat) (l : List UInt8) (p : Nat), l.length ≤ n → (∀ x ∈ (scan K l p).1, Pl x (p + l.length)) ∧ (∀ q, (scan K l p).2 = some q → p ≤ q ∧ q ≤ p + l.length) ∧ ((scan K l p).2 = none → (scan K l p).1 ≠ []) := by
  intro n
  induction n with
  | zero =>
    intro l p hl
    rw [scan_go]
    cases h : item K l p with
    | inl o =>
      obtain ⟨x, q, r⟩ := o
      have := item_some h
      have := item_rest h
      omega
    | inr q =>
      have := item_fail h
      refine ⟨fun x hx => (by cases hx), fun q' e => ?_, fun e => (by cases e)⟩
      obtain rfl : q = q' := by simpa [go] using e
      omega
  | succ n ih =>
    intro l p hl
    rw [scan_go]
    cases h : item K l p with
    | inr q =>
      have := item_fail h
      refine ⟨fun x hx => (by cases hx), fun q' e => ?_, fun e => (by cases e)⟩
      obtain rfl : q = q' := by simpa [go] using e
      omega
    | inl o =>
      obtain ⟨x, q, r⟩ := o
      have h1 := item_rest h
      have h2 := item_some h
      have h3 := item_pl h
      cases r with
      | nil =>
        rw [go_end]
        refine ⟨fun y hy => ?_, fun q' e => (by cases e), fun _ => (by simp)⟩
        rw [List.mem_singleton] at hy
        subst hy
        exact h3.mono (by simp at h1; omega)
      | cons c r =>
        by_cases hc : c = 44
        · subst hc
          simp only [List.length_cons] at h1
          obtain ⟨i1, i2, i3⟩ := ih r (q + 1) (by omega)
          rw [go_comma]
          refine ⟨fun y hy => ?_, fun q' e => ?_, fun _ => (by simp)⟩
          · rcases List.mem_cons.1 hy with rfl | hy
            · exact h3.mono (by omega)
            · exact (i1 y hy).mono (by omega)
          · have := i2 q' e
            omega
        · rw [go_junk K x q c _ hc]
          simp only [List.length_cons] at h1
          refine ⟨fun x hx => (by cases hx), fun q' e => ?_, fun e => (by cases e)⟩
          obtain rfl : q = q' := by simpa using e
          omega
theorem wrong_pl {K : Kd} {x : It} {q a : Nat} (h : Pl x q) (e : wrong K x = some a) : a < q := by
  obtain ⟨h1, h2, h3⟩ := h
  unfold wrong at e
  split at e
  · simp only [Option.some.injEq] at e; omega
  · split at e
    · simp only [Option.some.injEq] at e; omega
    · split at e
      · simp only [Option.some.injEq] at e; omega
      · split at e
        · simp only [Option.some.injEq] at e; omega
        · cases e
theorem bad_pl {K : Kd} {xs : List It} {q a : Nat} (h : ∀ x ∈ xs, Pl x q) (e : bad K xs = some a) : a < q := by
  unfold bad at e
  obtain ⟨x, hx, e⟩ := List.exists_of_findSome?_eq_some e
  exact wrong_pl (h x hx) e
/-- what an error comes with -/
theorem parse_bad {K : Kd} (l : List UInt8) (h : (parse K l).2.2.2 ≠ 0) : (parse K l).1 = 0 ∧ (parse K l).2.1 = false ∧ (parse K l).2.2.1 ≤ l.length ∧ ((parse K l).2.2.2 = 10 ∨ ((parse K l).2.2.2 = 2 ∧ (parse K l).2.2.1 < l.length)) := by
  obtain ⟨p1, p2, _⟩ := scan_pl K l.length l 0 (Nat.le_refl _)
  rw [Nat.zero_add] at p1
  cases h1 : (scan K l 0).2 with
  | some q =>
    rw [parse_form h1]
    have := p2 q h1
    exact ⟨rfl, rfl, by show q ≤ l.length; omega, .inl rfl⟩
  | none =>
    cases h2 : bad K (scan K l 0).1 with
    | some a =>
      rw [parse_arg h1 h2]
      have := bad_pl p1 h2
      exact ⟨rfl, rfl, by show a ≤ l.length; omega, .inr ⟨rfl, this⟩⟩
    | none => rw [parse_ok h1 h2] at h; exact (h rfl).elim
theorem setOf_in {K : Kd} (O : K.Ok) {x : It} (h : wrong K x = none) : In K (setOf K x) ∧ setOf K x ≠ 0 := by
  refine ⟨fun v hv => ?_, fun e => ?_⟩
  · rw [setOf_bit O h] at hv
    exact (of_decide_eq_true hv).1
  · obtain ⟨h1, h2, h3, h4⟩ := wrong_none.1 h
    rcases h1 with h1 | ⟨w, h1⟩
    · have := setOf_bit O h x.f
      rw [e, Nat.zero_testBit] at this
      have := of_decide_eq_false this.symm
      exact this ⟨h1, .inl ⟨Nat.le_refl _, h3, by simp⟩⟩
    · have := setOf_bit O h 0
      rw [e, Nat.zero_testBit] at this
      have := of_decide_eq_false this.symm
      have w2 := O.week w
      exact this ⟨by omega, .inr ⟨w, rfl, by omega, by omega, by rw [h1]; simp⟩⟩
/-- what a field that is right comes with -/
theorem parse_good {K : Kd} (O : K.Ok) (l : List UInt8) (h : (parse K l).2.2.2 = 0) : (parse K l).1 ≠ 0 ∧ In K (parse K l).1 ∧ (parse K l).2.1 = (l == [42]) ∧ (parse K l).2.2.1 = 0 ∧ ((parse K l).2.1 = true → (parse K l).1 = fullK K) := by
  obtain ⟨_, _, p3⟩ := scan_pl K l.length l 0 (Nat.le_refl _)
  cases h1 : (scan K l 0).2 with
  | some q => rw [parse_form h1] at h; cases h
  | none =>
    cases h2 : bad K (scan K l 0).1 with
    | some a => rw [parse_arg h1 h2] at h; cases h
    | none =>
      have hw := bad_none.1 h2
      refine ⟨?_, ?_, ?_, ?_, ?_⟩
      · rw [parse_ok h1 h2]
        show total K (scan K l 0).1 ≠ 0
        cases hq : (scan K l 0).1 with
        | nil => exact (p3 h1 hq).elim
        | cons x r =>
          intro e
          have hx := setOf_in O (hw x (by rw [hq]; simp))
          obtain ⟨v, hv⟩ : ∃ v, (setOf K x).testBit v = true := by
            apply Classical.byContradiction
            intro c
            apply hx.2
            apply Nat.eq_of_testBit_eq
            intro v
            rw [Nat.zero_testBit]
            cases q : (setOf K x).testBit v with
            | false => rfl
            | true => exact (c ⟨v, q⟩).elim
          have t := total_bit K (x :: r) v
          rw [e, Nat.zero_testBit, List.any_cons, hv, Bool.true_or] at t
          cases t
      · rw [parse_ok h1 h2]
        intro v hv
        have hv : (total K (scan K l 0).1).testBit v = true := hv
        rw [total_bit, List.any_eq_true] at hv
        obtain ⟨x, hx, hv⟩ := hv
        exact (setOf_in O (hw x hx)).1 v hv
      · rw [parse_ok h1 h2]
      · rw [parse_ok h1 h2]
      · intro hs
        rw [parse_ok h1 h2] at hs
        have hs : (l == [42]) = true := hs
        obtain rfl : l = [42] := by simpa using hs
        rw [parse_star O]

/-! normal fields -/
theorem sub_full {K : Kd} (O : K.Ok) {S : Nat} (h : In K S) : subB S (fullK K) = true := by
  unfold subB
  rw [decide_eq_true_iff]
  apply Nat.eq_of_testBit_eq
  intro v
  rw [Nat.testBit_and, full_bit O]
  cases q : S.testBit v with
  | false => rfl
  | true => rw [Bool.true_and, decide_eq_true (h v q)]
theorem print_norm {K : Kd} (O : K.Ok) {S : Nat} {star : Bool} (h0 : S ≠ 0) (h : In K S) (hs : star = true → S = fullK K) : printR K S star = (if star = true then [42] else txt S, 0) := by
  unfold printR
  rw [if_neg]
  · split <;> rfl
  · rintro (c | c | ⟨c, d⟩)
    · exact h0 c
    · rw [sub_full O h] at c; cases c
    · exact d (hs c)
theorem norm_form {K : Kd} (O : K.Ok) (l : List UInt8) (h : (parse K l).2.2.2 = 0) : normR K l = (if (parse K l).2.1 = true then [42] else txt (parse K l).1, 0, 0) := by
  obtain ⟨a, b, c, d, e⟩ := parse_good O l h
  unfold normR
  rw [if_pos h, print_norm O a b e]
theorem norm_read {K : Kd} (O : K.Ok) (l : List UInt8) (h : (parse K l).2.2.2 = 0) : parse K (normR K l).1 = ((parse K l).1, (parse K l).2.1, 0, 0) := by
  obtain ⟨a, b, c, d, e⟩ := parse_good O l h
  rw [norm_form O l h]
  cases q : (parse K l).2.1 with
  | true => rw [if_pos rfl, parse_star O, e q]
  | false => rw [if_neg (by decide), parse_txt O a (parse_lt O l) b]
theorem norm_norm {K : Kd} (O : K.Ok) (l : List UInt8) (h : (parse K l).2.2.2 = 0) : normR K (normR K l).1 = ((normR K l).1, 0, 0) := by
  have r := norm_read O l h
  have e : (parse K (normR K l).1).2.2.2 = 0 := by rw [r]
  rw [norm_form O _ e, r]
  have e2 := norm_form O l h
  rw [e2]
theorem norm_bad {K : Kd} (l : List UInt8) (h : (parse K l).2.2.2 ≠ 0) : normR K l = ([], (parse K l).2.2.1, (parse K l).2.2.2) := by unfold normR; rw [if_neg h]
end Fld
end Go.Proofs.YtlmbfhbfejjpdaaDoor
