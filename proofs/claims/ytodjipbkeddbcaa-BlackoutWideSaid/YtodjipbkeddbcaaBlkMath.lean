/- Plain facts on lists of spans: their times, normal lists and that each set of times has but one, borders, results by steps. No program stands here. -/
namespace Go.Proofs.Ytodjipbkeddbcaa.Bk

/-- the times of a list of spans -/
def has (l : List (Int × Int)) (t : Int) : Prop := ∃ x ∈ l, x.1 ≤ t ∧ t ≤ x.2
instance (l : List (Int × Int)) (t : Int) : Decidable (has l t) := by unfold has; infer_instance
theorem has_nil (t : Int) : ¬ has [] t := by simp [has]
theorem has_cons {x : Int × Int} {l : List (Int × Int)} {t : Int} : has (x :: l) t ↔ (x.1 ≤ t ∧ t ≤ x.2) ∨ has l t := by simp [has]
theorem has_append {l m : List (Int × Int)} {t : Int} : has (l ++ m) t ↔ has l t ∨ has m t := by
  simp only [has, List.mem_append]
  constructor
  · rintro ⟨x, h | h, k⟩
    · exact .inl ⟨x, h, k⟩
    · exact .inr ⟨x, h, k⟩
  · rintro (⟨x, h, k⟩ | ⟨x, h, k⟩)
    · exact ⟨x, .inl h, k⟩
    · exact ⟨x, .inr h, k⟩
theorem has_one {x : Int × Int} {t : Int} : has [x] t ↔ x.1 ≤ t ∧ t ≤ x.2 := by simp [has]

/-- a normal list -/
structure Norm (l : List (Int × Int)) : Prop where
  le : ∀ x ∈ l, x.1 ≤ x.2
  gap : l.Pairwise fun x y => x.2 + 2 ≤ y.1
theorem Norm.nil : Norm [] := ⟨by simp, List.Pairwise.nil⟩
theorem Norm.tail {x : Int × Int} {l : List (Int × Int)} (h : Norm (x :: l)) : Norm l ∧ x.1 ≤ x.2 ∧ ∀ y ∈ l, x.2 + 2 ≤ y.1 := by
  obtain ⟨a, b⟩ := h
  rw [List.pairwise_cons] at b
  exact ⟨⟨fun y hy => a y (List.mem_cons_of_mem _ hy), b.2⟩, a x List.mem_cons_self, b.1⟩
theorem Norm.has_tail {x : Int × Int} {l : List (Int × Int)} (h : Norm (x :: l)) {t : Int} (k : has l t) : x.2 + 2 ≤ t := by
  obtain ⟨y, hy, k1, _⟩ := k
  have := h.tail.2.2 y hy
  omega
theorem Norm.first {x : Int × Int} {l : List (Int × Int)} (h : Norm (x :: l)) {t : Int} (k : has (x :: l) t) : x.1 ≤ t := by
  rcases has_cons.1 k with k | k
  · exact k.1
  · have := h.has_tail k
    have := h.tail.2.1
    omega
theorem norm_uniq : ∀ {l m : List (Int × Int)}, Norm l → Norm m → (∀ t, has l t ↔ has m t) → l = m := by
  intro l
  induction l with
  | nil =>
    intro m _ hm h
    cases m with
    | nil => rfl
    | cons y q => exact absurd ((h y.1).2 (has_cons.2 (.inl ⟨Int.le_refl _, hm.tail.2.1⟩))) (has_nil _)
  | cons x r ih =>
    intro m hl hm h
    cases m with
    | nil => exact absurd ((h x.1).1 (has_cons.2 (.inl ⟨Int.le_refl _, hl.tail.2.1⟩))) (has_nil _)
    | cons y q =>
      obtain ⟨nl, lx, _⟩ := hl.tail
      obtain ⟨nm, ly, _⟩ := hm.tail
      have a := hm.first ((h x.1).1 (has_cons.2 (.inl ⟨Int.le_refl _, lx⟩)))
      have b := hl.first ((h y.1).2 (has_cons.2 (.inl ⟨Int.le_refl _, ly⟩)))
      have c : ¬ x.2 < y.2 := fun k => by
        rcases has_cons.1 ((h (x.2 + 1)).2 (has_cons.2 (.inl ⟨by omega, by omega⟩))) with j | j
        · omega
        · have := hl.has_tail j; omega
      have d : ¬ y.2 < x.2 := fun k => by
        rcases has_cons.1 ((h (y.2 + 1)).1 (has_cons.2 (.inl ⟨by omega, by omega⟩))) with j | j
        · omega
        · have := hm.has_tail j; omega
      have e : x = y := by cases x; cases y; simp only at a b c d; simp only [Prod.mk.injEq]; omega
      subst e
      congr 1
      refine ih nl nm fun t => ?_
      constructor
      · intro k
        rcases has_cons.1 ((h t).1 (has_cons.2 (.inr k))) with j | j
        · have := hl.has_tail k; omega
        · exact j
      · intro k
        rcases has_cons.1 ((h t).2 (has_cons.2 (.inr k))) with j | j
        · have := hm.has_tail k; omega
        · exact j

/-- one more stretch from a to b - 1, behind all others -/
def ext (l : List (Int × Int)) (a b : Int) : List (Int × Int) := match l.getLast? with
  | some y => if y.2 = a - 1 then l.dropLast ++ [(y.1, b - 1)] else l ++ [(a, b - 1)]
  | none => l ++ [(a, b - 1)]
theorem last_split {l : List (Int × Int)} {y : Int × Int} (h : l.getLast? = some y) : l = l.dropLast ++ [y] := by
  have n : l ≠ [] := by intro e; subst e; simp at h
  have := List.dropLast_concat_getLast n
  rw [List.getLast?_eq_some_getLast n] at h
  simp only [Option.some.injEq] at h
  rw [h] at this
  exact this.symm
theorem ext_has {l : List (Int × Int)} {a b : Int} (hl : Norm l) (lt : a < b) (t : Int) : has (ext l a b) t ↔ has l t ∨ (a ≤ t ∧ t < b) := by
  unfold ext
  split
  · rename_i y hy
    have e := last_split hy
    have yl := hl.le y (by rw [e]; simp)
    split
    · rename_i ha
      rw [has_append, has_one]
      have : has l t ↔ has l.dropLast t ∨ (y.1 ≤ t ∧ t ≤ y.2) := by
        conv => lhs; rw [e]
        rw [has_append, has_one]
      rw [this]
      simp only
      constructor
      · rintro (k | k)
        · exact .inl (.inl k)
        · by_cases q : t ≤ y.2
          · exact .inl (.inr ⟨k.1, q⟩)
          · exact .inr (by omega)
      · rintro ((k | k) | k)
        · exact .inl k
        · exact .inr (by omega)
        · exact .inr (by omega)
    · rw [has_append, has_one]
      simp only
      constructor
      · rintro (k | k)
        · exact .inl k
        · exact .inr (by omega)
      · rintro (k | k)
        · exact .inl k
        · exact .inr (by omega)
  · rw [has_append, has_one]
    simp only
    constructor
    · rintro (k | k)
      · exact .inl k
      · exact .inr (by omega)
    · rintro (k | k)
      · exact .inl k
      · exact .inr (by omega)
theorem norm_snoc {l : List (Int × Int)} {x : Int × Int} (hl : Norm l) (hx : x.1 ≤ x.2) (hg : ∀ y ∈ l, y.2 + 2 ≤ x.1) : Norm (l ++ [x]) := by
  refine ⟨fun y hy => ?_, ?_⟩
  · rcases List.mem_append.1 hy with h | h
    · exact hl.le y h
    · simp only [List.mem_singleton] at h; subst h; exact hx
  · rw [List.pairwise_append]
    refine ⟨hl.gap, by simp, fun y hy z hz => ?_⟩
    simp only [List.mem_singleton] at hz
    subst hz
    exact hg y hy
theorem norm_init {l : List (Int × Int)} {y : Int × Int} (h : Norm (l ++ [y])) : Norm l ∧ y.1 ≤ y.2 ∧ ∀ x ∈ l, x.2 + 2 ≤ y.1 := by
  obtain ⟨a, b⟩ := h
  rw [List.pairwise_append] at b
  exact ⟨⟨fun x hx => a x (by simp [hx]), b.1⟩, a y (by simp), fun x hx => b.2.2 x hx y (by simp)⟩
theorem ext_norm {l : List (Int × Int)} {a b : Int} (hl : Norm l) (lt : a < b) (hb : ∀ x ∈ l, x.2 < a) : Norm (ext l a b) ∧ ∀ x ∈ ext l a b, x.2 < b := by
  unfold ext
  split
  · rename_i y hy
    have e := last_split hy
    have ya := hb y (by rw [e]; simp)
    have hl' := hl
    rw [e] at hl'
    obtain ⟨n, yl, yg⟩ := norm_init hl'
    split
    · rename_i ha
      refine ⟨norm_snoc n (by simp only; omega) yg, fun x hx => ?_⟩
      rcases List.mem_append.1 hx with h | h
      · have := hb x (by rw [e]; simp [h]); omega
      · simp only [List.mem_singleton] at h; subst h; simp only; omega
    · rename_i ha
      refine ⟨norm_snoc hl (by simp only; omega) (fun x hx => ?_), fun x hx => ?_⟩
      · rw [e] at hx
        simp only
        rcases List.mem_append.1 hx with h | h
        · have := yg x h; omega
        · simp only [List.mem_singleton] at h; subst h; omega
      · rcases List.mem_append.1 hx with h | h
        · have := hb x h; omega
        · simp only [List.mem_singleton] at h; subst h; simp only; omega
  · rename_i hy
    have : l = [] := by simpa using hy
    subst this
    refine ⟨norm_snoc Norm.nil (by simp only; omega) (by simp), fun x hx => ?_⟩
    simp only [List.nil_append, List.mem_singleton] at hx
    subst hx
    simp only
    omega

/-- numbers that increase -/
def Inc (l : List Int) : Prop := l.Pairwise (· < ·)
/-- a number put in its place, unless it is there -/
def ins : List Int → Int → List Int
  | [], t => [t]
  | x :: r, t => if x < t then x :: ins r t else if x = t then x :: r else t :: x :: r
theorem ins_mem : ∀ (l : List Int) (t u : Int), u ∈ ins l t ↔ u = t ∨ u ∈ l
  | [], t, u => by simp [ins]
  | x :: r, t, u => by
    unfold ins
    split
    · simp only [List.mem_cons, ins_mem r t u]
      constructor
      · rintro (h | h | h) <;> simp [h]
      · rintro (h | h | h) <;> simp [h]
    · split
      · rename_i h; subst h; simp only [List.mem_cons]; constructor
        · intro h; exact .inr h
        · rintro (h | h)
          · exact .inl h
          · exact h
      · simp [List.mem_cons]
theorem ins_inc : ∀ {l : List Int} (t : Int), Inc l → Inc (ins l t)
  | [], t, _ => by simp [ins, Inc]
  | x :: r, t, h => by
    unfold Inc at h
    rw [List.pairwise_cons] at h
    unfold ins
    split
    · rename_i lt
      unfold Inc
      rw [List.pairwise_cons]
      refine ⟨fun u hu => ?_, ins_inc t h.2⟩
      rcases (ins_mem r t u).1 hu with e | e
      · omega
      · exact h.1 u e
    · split
      · unfold Inc; rw [List.pairwise_cons]; exact h
      · unfold Inc
        rw [List.pairwise_cons, List.pairwise_cons]
        refine ⟨fun u hu => ?_, h⟩
        rcases List.mem_cons.1 hu with e | e
        · omega
        · have := h.1 u e; omega
/-- where it stands, or would stand: the first place that is not smaller -/
theorem ins_at : ∀ {l : List Int} {t : Int} {k : Nat}, k ≤ l.length → (∀ j, j < k → l.getD j 0 < t) → (k < l.length → t ≤ l.getD k 0) → ins l t = if k < l.length ∧ l.getD k 0 = t then l else l.take k ++ [t] ++ l.drop k
  | [], t, k, hk, _, _ => by
    have : k = 0 := by simpa using hk
    subst this
    simp [ins]
  | x :: r, t, 0, _, _, h2 => by
    have := h2 (by simp)
    simp only [List.getD_cons_zero] at this
    unfold ins
    rw [if_neg (by omega)]
    by_cases e : x = t
    · rw [if_pos e, if_pos (by simp [e])]
    · rw [if_neg e, if_neg (by simp [e])]
      simp
  | x :: r, t, k + 1, hk, h1, h2 => by
    have a := h1 0 (by omega)
    simp only [List.getD_cons_zero] at a
    unfold ins
    rw [if_pos a, ins_at (k := k) (by simp at hk; omega) (fun j hj => by have := h1 (j + 1) (by omega); simpa using this) (fun q => by have := h2 (by simp; omega); simpa using this)]
    simp only [List.length_cons, Nat.add_lt_add_iff_right, List.getD_cons_succ, List.take_succ_cons, List.drop_succ_cons, List.cons_append]
    split <;> rfl
theorem inc_at {l : List Int} (h : Inc l) {i j : Nat} (hij : i < j) (hj : j < l.length) : l.getD i 0 < l.getD j 0 := by
  have := List.pairwise_iff_getElem.1 h i j (by omega) hj hij
  simpa [List.getD_eq_getElem?_getD, List.getElem?_eq_getElem, hj, show i < l.length by omega] using this

/-- what belongs to it changes at borders only -/
def Bd (P : Int → Bool) (l : List Int) : Prop := ∀ t, P t ≠ P (t - 1) → t ∈ l
theorem bd_const {P : Int → Bool} {l : List Int} (h : Bd P l) {a : Int} : ∀ (n : Nat), (∀ u, a < u → u ≤ a + n → u ∉ l) → P (a + n) = P a
  | 0, _ => by simp
  | n + 1, q => by
    have e := bd_const h n (fun u h1 h2 => q u h1 (by omega))
    apply Classical.byContradiction
    intro k
    refine q (a + (n + 1 : Nat)) (by omega) (by omega) (h _ ?_)
    rw [show a + ((n + 1 : Nat) : Int) - 1 = a + n by omega, e]
    exact k
theorem bd_between {P : Int → Bool} {l : List Int} (h : Bd P l) {a t : Int} (le : a ≤ t) (q : ∀ u, a < u → u ≤ t → u ∉ l) : P t = P a := by
  obtain ⟨n, hn⟩ := Int.eq_ofNat_of_zero_le (show 0 ≤ t - a by omega)
  have := bd_const h (a := a) n (fun u h1 h2 => q u h1 (by omega))
  rwa [show a + (n : Int) = t by omega] at this
theorem mem_getD {l : List Int} {u : Int} (h : u ∈ l) : ∃ i, i < l.length ∧ l.getD i 0 = u := by
  obtain ⟨i, hi, e⟩ := List.getElem_of_mem h
  exact ⟨i, hi, by simp [hi, e]⟩
/-- between two neighbours there is no border -/
theorem inc_gap {l : List Int} (h : Inc l) {i : Nat} (hi : i + 1 < l.length) {u : Int} (h1 : l.getD i 0 < u) (h2 : u < l.getD (i + 1) 0) : u ∉ l := by
  intro hu
  obtain ⟨j, hj, rfl⟩ := mem_getD hu
  by_cases a : j ≤ i
  · by_cases b : j = i
    · subst b; omega
    · have := inc_at h (show j < i by omega) (by omega); omega
  · by_cases b : j = i + 1
    · subst b; omega
    · have := inc_at h (show i + 1 < j by omega) hj; omega

/-- the result after so many borders -/
def resTo (P : Int → Bool) (l : List Int) : Nat → List (Int × Int)
  | 0 => []
  | i + 1 => if P (l.getD i 0) = true then ext (resTo P l i) (l.getD i 0) (l.getD (i + 1) 0) else resTo P l i
structure Res (P : Int → Bool) (l : List Int) (i : Nat) : Prop where
  norm : Norm (resTo P l i)
  below : ∀ x ∈ resTo P l i, x.2 < l.getD i 0
  times : ∀ t, has (resTo P l i) t ↔ (P t = true ∧ t < l.getD i 0)
theorem res_start {P : Int → Bool} {l : List Int} (h : Inc l) (hb : Bd P l) {lo : Int} (hlo : ∀ t, t < lo → P t = false) : Res P l 0 := by
  refine ⟨Norm.nil, by simp [resTo], fun t => ⟨fun k => absurd k (has_nil t), fun k => ?_⟩⟩
  exfalso
  have e : P t = P (min t lo - 1) := bd_between hb (by omega) (fun u h1 h2 hu => by
    obtain ⟨j, hj, rfl⟩ := mem_getD hu
    by_cases z : j = 0
    · subst z; omega
    · have := inc_at h (show 0 < j by omega) hj; omega)
  rw [hlo (min t lo - 1) (by omega)] at e
  rw [e] at k
  exact absurd k.1 (by simp)
theorem res_step {P : Int → Bool} {l : List Int} (h : Inc l) (hb : Bd P l) {i : Nat} (hi : i + 1 < l.length) (r : Res P l i) : Res P l (i + 1) := by
  have lt := inc_at h (show i < i + 1 by omega) hi
  have cst : ∀ t, l.getD i 0 ≤ t → t < l.getD (i + 1) 0 → P t = P (l.getD i 0) := fun t h1 h2 => bd_between hb h1 (fun u a b => inc_gap h hi a (by omega))
  by_cases p : P (l.getD i 0) = true
  · have e : resTo P l (i + 1) = ext (resTo P l i) (l.getD i 0) (l.getD (i + 1) 0) := by show (if _ then _ else _) = _; rw [if_pos p]
    obtain ⟨n, b⟩ := ext_norm r.norm lt r.below
    refine ⟨by rw [e]; exact n, by rw [e]; exact b, fun t => ?_⟩
    rw [e, ext_has r.norm lt, r.times]
    constructor
    · rintro (⟨k1, k2⟩ | ⟨k1, k2⟩)
      · exact ⟨k1, by omega⟩
      · exact ⟨by rw [cst t k1 k2]; exact p, k2⟩
    · rintro ⟨k1, k2⟩
      by_cases q : t < l.getD i 0
      · exact .inl ⟨k1, q⟩
      · exact .inr ⟨by omega, k2⟩
  · have e : resTo P l (i + 1) = resTo P l i := by show (if _ then _ else _) = _; rw [if_neg p]
    refine ⟨by rw [e]; exact r.norm, fun x hx => by rw [e] at hx; have := r.below x hx; omega, fun t => ?_⟩
    rw [e, r.times]
    constructor
    · rintro ⟨k1, k2⟩; exact ⟨k1, by omega⟩
    · rintro ⟨k1, k2⟩
      refine ⟨k1, ?_⟩
      apply Classical.byContradiction
      intro q
      exact p ((cst t (by omega) k2) ▸ k1)
/-- the whole result -/
def res (P : Int → Bool) (l : List Int) : List (Int × Int) := resTo P l (l.length - 1)
theorem res_any {P : Int → Bool} {l : List Int} (h : Inc l) (hb : Bd P l) {lo : Int} (hlo : ∀ t, t < lo → P t = false) : ∀ i, i + 1 ≤ l.length ∨ i = 0 → Res P l i
  | 0, _ => res_start h hb hlo
  | i + 1, q => res_step h hb (by omega) (res_any h hb hlo i (by omega))
theorem res_is {P : Int → Bool} {l : List Int} (h : Inc l) (hb : Bd P l) {lo hi : Int} (hlo : ∀ t, t < lo → P t = false) (hhi : ∀ t, hi < t → P t = false) : Norm (res P l) ∧ ∀ t, has (res P l) t ↔ P t = true := by
  have r := res_any h hb hlo (l.length - 1) (by omega)
  refine ⟨r.norm, fun t => ?_⟩
  unfold res
  rw [r.times]
  refine ⟨fun k => k.1, fun k => ⟨k, ?_⟩⟩
  apply Classical.byContradiction
  intro q
  have e : P (max t hi + 1) = P t := bd_between hb (by omega) (fun u h1 h2 hu => by
    obtain ⟨j, hj, rfl⟩ := mem_getD hu
    by_cases z : j = l.length - 1
    · subst z; omega
    · have := inc_at h (show j < l.length - 1 by omega) (by omega); omega)
  rw [hhi _ (by omega)] at e
  rw [← e] at k
  simp at k
/-- where the times of a list begin and end -/
theorem has_border {l : List (Int × Int)} {t : Int} (h : decide (has l t) ≠ decide (has l (t - 1))) : ∃ x ∈ l, t = x.1 ∨ t = x.2 + 1 := by
  by_cases a : has l t
  · by_cases b : has l (t - 1)
    · simp [a, b] at h
    · obtain ⟨x, hx, h1, h2⟩ := a
      refine ⟨x, hx, .inl ?_⟩
      apply Classical.byContradiction
      intro q
      exact b ⟨x, hx, by omega, by omega⟩
  · by_cases b : has l (t - 1)
    · obtain ⟨x, hx, h1, h2⟩ := b
      refine ⟨x, hx, .inr ?_⟩
      apply Classical.byContradiction
      intro q
      exact a ⟨x, hx, by omega, by omega⟩
    · simp [a, b] at h
/-- the borders of a list -/
def bords : List (Int × Int) → List Int → List Int
  | [], acc => acc
  | x :: r, acc => bords r (ins (ins acc x.1) (x.2 + 1))
theorem bords_inc : ∀ (l : List (Int × Int)) {acc : List Int}, Inc acc → Inc (bords l acc)
  | [], _, h => h
  | _ :: r, _, h => bords_inc r (ins_inc _ (ins_inc _ h))
theorem bords_mem : ∀ (l : List (Int × Int)) (acc : List Int) (u : Int), u ∈ bords l acc ↔ u ∈ acc ∨ ∃ x ∈ l, u = x.1 ∨ u = x.2 + 1
  | [], acc, u => by simp [bords]
  | x :: r, acc, u => by
    unfold bords
    rw [bords_mem r]
    simp only [ins_mem, List.mem_cons, exists_eq_or_imp]
    constructor
    · rintro ((h | h | h) | h) <;> simp [h]
    · rintro (h | (h | h) | h) <;> simp [h]
theorem bords_snoc (l : List (Int × Int)) (x : Int × Int) (acc : List Int) : bords (l ++ [x]) acc = ins (ins (bords l acc) x.1) (x.2 + 1) := by
  induction l generalizing acc with
  | nil => rfl
  | cons y r ih => simp only [List.cons_append, bords, ih]
end Go.Proofs.Ytodjipbkeddbcaa.Bk
