/- The document's items: what they say, beside the items as they are read; what is wrong with them, and their sets. No walk stands here. -/
import Derived.Test.YtlmbfhbfejjpdaaGreatDoorFldCC
namespace Go.Proofs.YtlmbfhbfejjpdaaGreatDoor
open Go.ChangeShapes Go.WideShapes Go.RowKit Go.Shelf

/-- an item of the document -/
structure DI where
  star : Bool
  a : Int
  b : Int
  c : Int
  p : Int
  q : Int
  r : Int
def DI.cells (d : DI) : List Value := [.bool d.star, .int .i64 d.a, .int .i64 d.b, .int .i64 d.c, .int .i64 d.p, .int .i64 d.q, .int .i64 d.r]
def DI.val (d : DI) : Value := .agg #[.bool d.star, .int .i64 d.a, .int .i64 d.b, .int .i64 d.c, .int .i64 d.p, .int .i64 d.q, .int .i64 d.r]
/-- the step of an item of the document, and of the item -/
def StepI (x : Fld.It) (d : DI) : Prop := (d.c = -1 ∧ x.t = 1) ∨ (d.c = x.t ∧ d.r = x.ta)
/-- the item that an item of the document stands for -/
def RI (K : Fld.Kd) (x : Fld.It) (d : DI) : Prop :=
  (d.star = true ∧ d.a = -1 ∧ d.b = -1 ∧ x.f = K.lo ∧ x.s = K.hi ∧ StepI x d) ∨
  (d.star = false ∧ d.a = x.f ∧ d.p = x.fa ∧ d.b = -1 ∧ ((d.c = -1 ∧ x.s = x.f ∧ x.t = 1) ∨ (d.c = x.t ∧ d.r = x.ta ∧ x.s = max x.f K.hi))) ∨
  (d.star = false ∧ d.a = x.f ∧ d.p = x.fa ∧ d.b = x.s ∧ d.q = x.sa ∧ StepI x d)
/-- items of the document stand for items -/
def RIs (K : Fld.Kd) (xs : List Fld.It) (ds : List DI) : Prop := xs.length = ds.length ∧ ∀ i (h1 : i < xs.length) (h2 : i < ds.length), RI K xs[i] ds[i]
theorem ris_nil (K : Fld.Kd) : RIs K [] [] := ⟨rfl, fun i h => by simp at h⟩
theorem RIs.snoc {K : Fld.Kd} {xs : List Fld.It} {ds : List DI} {x : Fld.It} {d : DI} (h : RIs K xs ds) (hx : RI K x d) : RIs K (xs ++ [x]) (ds ++ [d]) := by
  refine ⟨by simp [h.1], fun i h1 h2 => ?_⟩
  rw [List.getElem_append, List.getElem_append]
  by_cases q : i < xs.length
  · rw [dif_pos q, dif_pos (by rw [← h.1]; exact q)]
    exact h.2 i q (by rw [← h.1]; exact q)
  · rw [dif_neg q, dif_neg (by rw [← h.1]; exact q)]
    simpa using hx
/-! the cells of a list of them -/
def flatI (l : List DI) : List Value := l.flatMap DI.cells
theorem flatI_len (l : List DI) : (flatI l).length = l.length * 7 := by
  induction l with
  | nil => rfl
  | cons r l ih => simp [flatI, DI.cells] at ih ⊢; omega
theorem flatI_snoc (l : List DI) (d : DI) : flatI (l ++ [d]) = flatI l ++ d.cells := by simp [flatI]
theorem flatI_at : ∀ (l : List DI) (k : Nat) (h : k < l.length) (j : Nat), j < 7 → (flatI l)[k * 7 + j]? = l[k].cells[j]?
  | r :: l, 0, _, j, hj => by
    have e : flatI (r :: l) = r.cells ++ flatI l := by simp [flatI]
    rw [e, List.getElem?_append_left (by simp [DI.cells]; omega)]
    simp
  | r :: l, k + 1, h, j, hj => by
    have ih := flatI_at l k (by simpa using h) j hj
    have e : flatI (r :: l) = r.cells ++ flatI l := by simp [flatI]
    rw [e, List.getElem?_append_right (by simp [DI.cells]; omega)]
    have : (k + 1) * 7 + j - r.cells.length = k * 7 + j := by simp [DI.cells]; omega
    rw [this, ih]
    rfl
/-! sets -/
theorem fold7_add (K : Fld.Kd) (S v : Nat) (hS : S < 2 ^ 64) (hv : v < 64) : Fld.fold7 K (S ||| 2 ^ v) = Fld.fold7 K S ||| (if K.week = true ∧ v = 7 then 1 else 2 ^ v) := by
  have m : ∀ j, (18446744073709551615 - 128 : Nat).testBit j = (decide (j < 64) && !decide (j = 7)) := by
    intro j
    have e : (18446744073709551615 - 128 : Nat) = 2 ^ 64 - (128 + 1) := by decide
    rw [e, Nat.testBit_two_pow_sub_succ (by decide), show (128 : Nat) = 2 ^ 7 from rfl, Nat.testBit_two_pow]
    congr 2
    rw [Bool.eq_iff_iff]
    simp only [decide_eq_true_iff]
    omega
  have o : ∀ j, (1 : Nat).testBit j = decide (j = 0) := by
    intro j
    rw [show (1 : Nat) = 2 ^ 0 from rfl, Nat.testBit_two_pow, Bool.eq_iff_iff]
    simp only [decide_eq_true_iff]
    omega
  have hb : ∀ j, S.testBit j = true → j < 64 := fun j h => by
    rcases Nat.lt_or_ge j 64 with a | a
    · exact a
    · rw [Nat.testBit_lt_two_pow (Nat.lt_of_lt_of_le hS (Nat.pow_le_pow_right (by decide) a))] at h; cases h
  unfold Fld.fold7
  by_cases w : K.week = true
  · by_cases c : S.testBit 7 = true
    · have c2 : (S ||| 2 ^ v).testBit 7 = true := by rw [Nat.testBit_or, c]; rfl
      rw [if_pos ⟨w, c2⟩, if_pos ⟨w, c⟩]
      apply Nat.eq_of_testBit_eq
      intro j
      by_cases h7 : v = 7
      · rw [if_pos ⟨w, h7⟩]
        simp only [Nat.testBit_or, Nat.testBit_and, m, o, Nat.testBit_two_pow]
        by_cases j7 : j = 7
        · simp [j7]
        · have : ¬ v = j := by omega
          simp [this]
      · rw [if_neg (fun q => h7 q.2)]
        simp only [Nat.testBit_or, Nat.testBit_and, m, o, Nat.testBit_two_pow]
        by_cases e : v = j
        · subst e
          simp [h7, hv]
        · simp [e]
    · have cf : S.testBit 7 = false := by simpa using c
      rw [if_neg (c := K.week = true ∧ S.testBit 7 = true) (fun q => c q.2)]
      by_cases h7 : v = 7
      · have c2 : (S ||| 2 ^ v).testBit 7 = true := by rw [Nat.testBit_or, Nat.testBit_two_pow, h7]; simp
        rw [if_pos ⟨w, c2⟩, if_pos ⟨w, h7⟩]
        apply Nat.eq_of_testBit_eq
        intro j
        simp only [Nat.testBit_or, Nat.testBit_and, m, o, Nat.testBit_two_pow]
        by_cases j7 : j = 7
        · subst j7; simp [cf]
        · have e : ¬ v = j := by omega
          by_cases hj : j < 64
          · simp [e, j7, hj]
          · have : S.testBit j = false := by
              cases q : S.testBit j with
              | false => rfl
              | true => exact absurd (hb j q) hj
            simp [e, this]
      · have c2 : ¬ (S ||| 2 ^ v).testBit 7 = true := by rw [Nat.testBit_or, Nat.testBit_two_pow, cf]; simp [h7]
        rw [if_neg (fun q => c2 q.2), if_neg (fun q => h7 q.2)]
  · rw [if_neg (fun q => w q.1), if_neg (fun q => w q.1), if_neg (fun q => w q.1)]
/-! what is wrong, and the numbers: which road it goes -/
def StepOut (d : DI) (r : Int) : Prop := (d.c = 0 ∧ r = d.r) ∨ (d.c ≠ 0 ∧ r = -1)
def WrongRoad (K : Fld.Kd) (d : DI) (r : Int) : Prop :=
  (d.star = true ∧ d.b = -1 ∧ StepOut d r) ∨
  ∃ n : Nat, d.star = false ∧ d.a = n ∧ ((¬ Fld.has K n ∧ r = d.p) ∨ (Fld.has K n ∧ d.b = -1 ∧ StepOut d r) ∨
    ∃ m : Nat, Fld.has K n ∧ d.b = m ∧ ((¬ Fld.has K m ∧ r = d.q) ∨ (Fld.has K m ∧ m < n ∧ r = d.p) ∨ (Fld.has K m ∧ n ≤ m ∧ StepOut d r)))
def wrongI (o : Option Nat) : Int := match o with
  | none => -1
  | some a => a
theorem wrong_road {K : Fld.Kd} (O : K.Ok) {x : Fld.It} {d : DI} (h : RI K x d) : WrongRoad K d (wrongI (Fld.wrong K x)) := by
  have hle := O.le
  have step : ∀ (x : Fld.It) (d : DI), StepI x d → Fld.has K x.f → Fld.has K x.s → x.f ≤ x.s → StepOut d (wrongI (Fld.wrong K x)) := by
    intro x d h h1 h2 h3
    unfold Fld.wrong
    rw [if_neg (by simpa using h1), if_neg (by simpa using h2), if_neg (by omega)]
    rcases h with ⟨e, e2⟩ | ⟨e, e2⟩
    · rw [if_neg (by omega)]; exact .inr ⟨by omega, rfl⟩
    · by_cases q : x.t = 0
      · rw [if_pos q]; exact .inl ⟨by omega, e2.symm⟩
      · rw [if_neg q]; exact .inr ⟨by omega, rfl⟩
  rcases h with ⟨h1, h2, h3, h4, h5, h6⟩ | ⟨h1, h2, h3, h4, h5⟩ | ⟨h1, h2, h3, h4, h5, h6⟩
  · exact .inl ⟨h1, h3, step x d h6 (.inl ⟨by omega, by omega⟩) (.inl ⟨by omega, by omega⟩) (by omega)⟩
  · refine .inr ⟨x.f, h1, h2, ?_⟩
    by_cases c : Fld.has K x.f
    · refine .inr (.inl ⟨c, h4, ?_⟩)
      rcases h5 with ⟨a, b, e⟩ | ⟨a, b, e⟩
      · exact step x d (.inl ⟨a, e⟩) c (by rw [b]; exact c) (by omega)
      · refine step x d (.inr ⟨a, b⟩) c ?_ (by omega)
        rw [e]
        by_cases q : x.f ≤ K.hi
        · exact .inl ⟨by omega, by omega⟩
        · rw [Nat.max_eq_left (by omega)]; exact c
    · refine .inl ⟨c, ?_⟩
      unfold Fld.wrong
      rw [if_pos c]
      exact h3.symm
  · refine .inr ⟨x.f, h1, h2, ?_⟩
    by_cases c : Fld.has K x.f
    · refine .inr (.inr ⟨x.s, c, h4, ?_⟩)
      by_cases c2 : Fld.has K x.s
      · by_cases q : x.s < x.f
        · refine .inr (.inl ⟨c2, q, ?_⟩)
          unfold Fld.wrong
          rw [if_neg (by simpa using c), if_neg (by simpa using c2), if_pos q]
          exact h3.symm
        · exact .inr (.inr ⟨c2, by omega, step x d h6 c c2 (by omega)⟩)
      · refine .inl ⟨c2, ?_⟩
        unfold Fld.wrong
        rw [if_neg (by simpa using c), if_pos c2]
        exact h5.symm
    · refine .inl ⟨c, ?_⟩
      unfold Fld.wrong
      rw [if_pos c]
      exact h3.symm
/-- the first number, the last one and the step of an item of the document, as it reckons them -/
def NumRoad (K : Fld.Kd) (d : DI) (f s t : Nat) : Prop :=
  ((d.star = true ∧ f = K.lo ∧ s = K.hi) ∨ (d.star = false ∧ d.a = f ∧ ∃ m : Nat, d.b = m ∧ s = m) ∨ (d.star = false ∧ d.a = f ∧ d.b = -1 ∧ 0 < d.c ∧ s = max f K.hi) ∨ (d.star = false ∧ d.a = f ∧ d.b = -1 ∧ d.c = -1 ∧ s = f)) ∧
  ((d.c = -1 ∧ t = 1) ∨ (d.c = t ∧ 1 ≤ t))
theorem num_road {K : Fld.Kd} {x : Fld.It} {d : DI} (h : RI K x d) (ht : 1 ≤ x.t) : NumRoad K d x.f x.s x.t := by
  rcases h with ⟨h1, h2, h3, h4, h5, h6⟩ | ⟨h1, h2, h3, h4, h5⟩ | ⟨h1, h2, h3, h4, h5, h6⟩
  · refine ⟨.inl ⟨h1, h4, h5⟩, ?_⟩
    rcases h6 with ⟨a, b⟩ | ⟨a, b⟩
    · exact .inl ⟨a, b⟩
    · exact .inr ⟨a, ht⟩
  · rcases h5 with ⟨a, b, e⟩ | ⟨a, b, e⟩
    · exact ⟨.inr (.inr (.inr ⟨h1, h2, h4, a, b⟩)), .inl ⟨a, e⟩⟩
    · exact ⟨.inr (.inr (.inl ⟨h1, h2, h4, by omega, e⟩)), .inr ⟨a, ht⟩⟩
  · refine ⟨.inr (.inl ⟨h1, h2, x.s, h4, rfl⟩), ?_⟩
    rcases h6 with ⟨a, b⟩ | ⟨a, b⟩
    · exact .inl ⟨a, b⟩
    · exact .inr ⟨a, ht⟩
end Go.Proofs.YtlmbfhbfejjpdaaGreatDoor
