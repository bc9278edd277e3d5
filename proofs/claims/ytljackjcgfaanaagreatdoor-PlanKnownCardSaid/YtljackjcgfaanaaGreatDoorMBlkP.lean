/- Plain facts on lists of spans: their times, normal lists and that each set of times has but one, borders, results by steps. No program stands here. Plain facts on lists of spans: their errors, what belongs to a result of two lists, how many times lie in a stretch, the first free time. No program stands here. Plain facts on the edges of two lists of spans: sorted edges, the borders that they make, the result built up border by border. No program stands here. -/

/- Plain facts on lists of spans: their times, normal lists and that each set of times has but one, borders, results by steps. No program stands here. -/

namespace Go.Proofs.YtljackjcgfaanaaGreatDoor.Bk

/-- the times of a list of spans -/
def has (l : List (Int × Int)) (t : Int) : Prop := ∃ x ∈ l, x.1 ≤ t ∧ t ≤ x.2
instance (l : List (Int × Int)) (t : Int) : Decidable (has l t) := by unfold has; infer_instance
theorem has_nil (t : Int) : ¬ has [] t := by simp [has]
theorem has_cons {x : Int × Int} {l : List (Int × Int)} {t : Int} : has (x :: l) t ↔ (x.1 ≤ t ∧ t ≤ x.2) ∨ has l t := by simp [has]
theorem has_append {l m : List (Int × Int)} {t : Int} : has (l ++ m) t ↔ has l t ∨ has m t := by
  simp only [has, List.mem_append]
  constructor
  · rintro ⟨x, h | h, k⟩
    · exact .inl ⟨x, h, k⟩
    · exact .inr ⟨x, h, k⟩
  · rintro (⟨x, h, k⟩ | ⟨x, h, k⟩)
    · exact ⟨x, .inl h, k⟩
    · exact ⟨x, .inr h, k⟩
theorem has_one {x : Int × Int} {t : Int} : has [x] t ↔ x.1 ≤ t ∧ t ≤ x.2 := by simp [has]

/-- a normal list -/
structure Norm (l : List (Int × Int)) : Prop where
  le : ∀ x ∈ l, x.1 ≤ x.2
  gap : l.Pairwise fun x y => x.2 + 2 ≤ y.1
theorem Norm.nil : Norm [] := ⟨by simp, List.Pairwise.nil⟩
theorem Norm.tail {x : Int × Int} {l : List (Int × Int)} (h : Norm (x :: l)) : Norm l ∧ x.1 ≤ x.2 ∧ ∀ y ∈ l, x.2 + 2 ≤ y.1 := by
  obtain ⟨a, b⟩ := h
  rw [List.pairwise_cons] at b
  exact ⟨⟨fun y hy => a y (List.mem_cons_of_mem _ hy), b.2⟩, a x List.mem_cons_self, b.1⟩
theorem Norm.has_tail {x : Int × Int} {l : List (Int × Int)} (h : Norm (x :: l)) {t : Int} (k : has l t) : x.2 + 2 ≤ t := by
  obtain ⟨y, hy, k1, _⟩ := k
  have := h.tail.2.2 y hy
  omega
theorem Norm.first {x : Int × Int} {l : List (Int × Int)} (h : Norm (x :: l)) {t : Int} (k : has (x :: l) t) : x.1 ≤ t := by
  rcases has_cons.1 k with k | k
  · exact k.1
  · have := h.has_tail k
    have := h.tail.2.1
    omega
theorem norm_uniq : ∀ {l m : List (Int × Int)}, Norm l → Norm m → (∀ t, has l t ↔ has m t) → l = m := by
  intro l
  induction l with
  | nil =>
    intro m _ hm h
    cases m with
    | nil => rfl
    | cons y q => exact absurd ((h y.1).2 (has_cons.2 (.inl ⟨Int.le_refl _, hm.tail.2.1⟩))) (has_nil _)
  | cons x r ih =>
    intro m hl hm h
    cases m with
    | nil => exact absurd ((h x.1).1 (has_cons.2 (.inl ⟨Int.le_refl _, hl.tail.2.1⟩))) (has_nil _)
    | cons y q =>
      obtain ⟨nl, lx, _⟩ := hl.tail
      obtain ⟨nm, ly, _⟩ := hm.tail
      have a := hm.first ((h x.1).1 (has_cons.2 (.inl ⟨Int.le_refl _, lx⟩)))
      have b := hl.first ((h y.1).2 (has_cons.2 (.inl ⟨Int.le_refl _, ly⟩)))
      have c : ¬ x.2 < y.2 := fun k => by
        rcases has_cons.1 ((h (x.2 + 1)).2 (has_cons.2 (.inl ⟨by omega, by omega⟩))) with j | j
        · omega
        · have := hl.has_tail j; omega
      have d : ¬ y.2 < x.2 := fun k => by
        rcases has_cons.1 ((h (y.2 + 1)).1 (has_cons.2 (.inl ⟨by omega, by omega⟩))) with j | j
        · omega
        · have := hm.has_tail j; omega
      have e : x = y := by cases x; cases y; simp only at a b c d; simp only [Prod.mk.injEq]; omega
      subst e
      congr 1
      refine ih nl nm fun t => ?_
      constructor
      · intro k
        rcases has_cons.1 ((h t).1 (has_cons.2 (.inr k))) with j | j
        · have := hl.has_tail k; omega
        · exact j
      · intro k
        rcases has_cons.1 ((h t).2 (has_cons.2 (.inr k))) with j | j
        · have := hm.has_tail k; omega
        · exact j

/-- one more stretch from a to b - 1, behind all others -/
def ext (l : List (Int × Int)) (a b : Int) : List (Int × Int) := match l.getLast? with
  | some y => if y.2 = a - 1 then l.dropLast ++ [(y.1, b - 1)] else l ++ [(a, b - 1)]
  | none => l ++ [(a, b - 1)]
theorem last_split {l : List (Int × Int)} {y : Int × Int} (h : l.getLast? = some y) : l = l.dropLast ++ [y] := by
  have n : l ≠ [] := by intro e; subst e; simp at h
  have := List.dropLast_concat_getLast n
  rw [List.getLast?_eq_some_getLast n] at h
  simp only [Option.some.injEq] at h
  rw [h] at this
  exact this.symm
theorem ext_has {l : List (Int × Int)} {a b : Int} (hl : Norm l) (lt : a < b) (t : Int) : has (ext l a b) t ↔ has l t ∨ (a ≤ t ∧ t < b) := by
  unfold ext
  split
  · rename_i y hy
    have e := last_split hy
    have yl := hl.le y (by rw [e]; simp)
    split
    · rename_i ha
      rw [has_append, has_one]
      have : has l t ↔ has l.dropLast t ∨ (y.1 ≤ t ∧ t ≤ y.2) := by
        conv => lhs; rw [e]
        rw [has_append, has_one]
      rw [this]
      simp only
      constructor
      · rintro (k | k)
        · exact .inl (.inl k)
        · by_cases q : t ≤ y.2
          · exact .inl (.inr ⟨k.1, q⟩)
          · exact .inr (by omega)
      · rintro ((k | k) | k)
        · exact .inl k
        · exact .inr (by omega)
        · exact .inr (by omega)
    · rw [has_append, has_one]
      simp only
      constructor
      · rintro (k | k)
        · exact .inl k
        · exact .inr (by omega)
      · rintro (k | k)
        · exact .inl k
        · exact .inr (by omega)
  · rw [has_append, has_one]
    simp only
    constructor
    · rintro (k | k)
      · exact .inl k
      · exact .inr (by omega)
    · rintro (k | k)
      · exact .inl k
      · exact .inr (by omega)
theorem norm_snoc {l : List (Int × Int)} {x : Int × Int} (hl : Norm l) (hx : x.1 ≤ x.2) (hg : ∀ y ∈ l, y.2 + 2 ≤ x.1) : Norm (l ++ [x]) := by
  refine ⟨fun y hy => ?_, ?_⟩
  · rcases List.mem_append.1 hy with h | h
    · exact hl.le y h
    · simp only [List.mem_singleton] at h; subst h; exact hx
  · rw [List.pairwise_append]
    refine ⟨hl.gap, by simp, fun y hy z hz => ?_⟩
    simp only [List.mem_singleton] at hz
    subst hz
    exact hg y hy
theorem norm_init {l : List (Int × Int)} {y : Int × Int} (h : Norm (l ++ [y])) : Norm l ∧ y.1 ≤ y.2 ∧ ∀ x ∈ l, x.2 + 2 ≤ y.1 := by
  obtain ⟨a, b⟩ := h
  rw [List.pairwise_append] at b
  exact ⟨⟨fun x hx => a x (by simp [hx]), b.1⟩, a y (by simp), fun x hx => b.2.2 x hx y (by simp)⟩
theorem ext_norm {l : List (Int × Int)} {a b : Int} (hl : Norm l) (lt : a < b) (hb : ∀ x ∈ l, x.2 < a) : Norm (ext l a b) ∧ ∀ x ∈ ext l a b, x.2 < b := by
  unfold ext
  split
  · rename_i y hy
    have e := last_split hy
    have ya := hb y (by rw [e]; simp)
    have hl' := hl
    rw [e] at hl'
    obtain ⟨n, yl, yg⟩ := norm_init hl'
    split
    · rename_i ha
      refine ⟨norm_snoc n (by simp only; omega) yg, fun x hx => ?_⟩
      rcases List.mem_append.1 hx with h | h
      · have := hb x (by rw [e]; simp [h]); omega
      · simp only [List.mem_singleton] at h; subst h; simp only; omega
    · rename_i ha
      refine ⟨norm_snoc hl (by simp only; omega) (fun x hx => ?_), fun x hx => ?_⟩
      · rw [e] at hx
        simp only
        rcases List.mem_append.1 hx with h | h
        · have := yg x h; omega
        · simp only [List.mem_singleton] at h; subst h; omega
      · rcases List.mem_append.1 hx with h | h
        · have := hb x h; omega
        · simp only [List.mem_singleton] at h; subst h; simp only; omega
  · rename_i hy
    have : l = [] := by simpa using hy
    subst this
    refine ⟨norm_snoc Norm.nil (by simp only; omega) (by simp), fun x hx => ?_⟩
    simp only [List.nil_append, List.mem_singleton] at hx
    subst hx
    simp only
    omega

/-- numbers that increase -/
def Inc (l : List Int) : Prop := l.Pairwise (· < ·)
/-- a number put in its place, unless it is there -/
def ins : List Int → Int → List Int
  | [], t => [t]
  | x :: r, t => if x < t then x :: ins r t else if x = t then x :: r else t :: x :: r
theorem ins_mem : ∀ (l : List Int) (t u : Int), u ∈ ins l t ↔ u = t ∨ u ∈ l
  | [], t, u => by simp [ins]
  | x :: r, t, u => by
    unfold ins
    split
    · simp only [List.mem_cons, ins_mem r t u]
      constructor
      · rintro (h | h | h) <;> simp [h]
      · rintro (h | h | h) <;> simp [h]
    · split
      · rename_i h; subst h; simp only [List.mem_cons]; constructor
        · intro h; exact .inr h
        · rintro (h | h)
          · exact .inl h
          · exact h
      · simp [List.mem_cons]
theorem ins_inc : ∀ {l : List Int} (t : Int), Inc l → Inc (ins l t)
  | [], t, _ => by simp [ins, Inc]
  | x :: r, t, h => by
    unfold Inc at h
    rw [List.pairwise_cons] at h
    unfold ins
    split
    · rename_i lt
      unfold Inc
      rw [List.pairwise_cons]
      refine ⟨fun u hu => ?_, ins_inc t h.2⟩
      rcases (ins_mem r t u).1 hu with e | e
      · omega
      · exact h.1 u e
    · split
      · unfold Inc; rw [List.pairwise_cons]; exact h
      · unfold Inc
        rw [List.pairwise_cons, List.pairwise_cons]
        refine ⟨fun u hu => ?_, h⟩
        rcases List.mem_cons.1 hu with e | e
        · omega
        · have := h.1 u e; omega
theorem inc_at {l : List Int} (h : Inc l) {i j : Nat} (hij : i < j) (hj : j < l.length) : l.getD i 0 < l.getD j 0 := by
  have := List.pairwise_iff_getElem.1 h i j (by omega) hj hij
  simpa [List.getD_eq_getElem?_getD, List.getElem?_eq_getElem, hj, show i < l.length by omega] using this

/-- what belongs to it changes at borders only -/
def Bd (P : Int → Bool) (l : List Int) : Prop := ∀ t, P t ≠ P (t - 1) → t ∈ l
theorem bd_const {P : Int → Bool} {l : List Int} (h : Bd P l) {a : Int} : ∀ (n : Nat), (∀ u, a < u → u ≤ a + n → u ∉ l) → P (a + n) = P a
  | 0, _ => by simp
  | n + 1, q => by
    have e := bd_const h n (fun u h1 h2 => q u h1 (by omega))
    apply Classical.byContradiction
    intro k
    refine q (a + (n + 1 : Nat)) (by omega) (by omega) (h _ ?_)
    rw [show a + ((n + 1 : Nat) : Int) - 1 = a + n by omega, e]
    exact k
theorem bd_between {P : Int → Bool} {l : List Int} (h : Bd P l) {a t : Int} (le : a ≤ t) (q : ∀ u, a < u → u ≤ t → u ∉ l) : P t = P a := by
  obtain ⟨n, hn⟩ := Int.eq_ofNat_of_zero_le (show 0 ≤ t - a by omega)
  have := bd_const h (a := a) n (fun u h1 h2 => q u h1 (by omega))
  rwa [show a + (n : Int) = t by omega] at this
theorem mem_getD {l : List Int} {u : Int} (h : u ∈ l) : ∃ i, i < l.length ∧ l.getD i 0 = u := by
  obtain ⟨i, hi, e⟩ := List.getElem_of_mem h
  exact ⟨i, hi, by simp [hi, e]⟩
/-- between two neighbours there is no border -/
theorem inc_gap {l : List Int} (h : Inc l) {i : Nat} (hi : i + 1 < l.length) {u : Int} (h1 : l.getD i 0 < u) (h2 : u < l.getD (i + 1) 0) : u ∉ l := by
  intro hu
  obtain ⟨j, hj, rfl⟩ := mem_getD hu
  by_cases a : j ≤ i
  · by_cases b : j = i
    · subst b; omega
    · have := inc_at h (show j < i by omega) (by omega); omega
  · by_cases b : j = i + 1
    · subst b; omega
    · have := inc_at h (show i + 1 < j by omega) hj; omega

/-- the result after so many borders -/
def resTo (P : Int → Bool) (l : List Int) : Nat → List (Int × Int)
  | 0 => []
  | i + 1 => if P (l.getD i 0) = true then ext (resTo P l i) (l.getD i 0) (l.getD (i + 1) 0) else resTo P l i
structure Res (P : Int → Bool) (l : List Int) (i : Nat) : Prop where
  norm : Norm (resTo P l i)
  below : ∀ x ∈ resTo P l i, x.2 < l.getD i 0
  times : ∀ t, has (resTo P l i) t ↔ (P t = true ∧ t < l.getD i 0)
theorem res_start {P : Int → Bool} {l : List Int} (h : Inc l) (hb : Bd P l) {lo : Int} (hlo : ∀ t, t < lo → P t = false) : Res P l 0 := by
  refine ⟨Norm.nil, by simp [resTo], fun t => ⟨fun k => absurd k (has_nil t), fun k => ?_⟩⟩
  exfalso
  have e : P t = P (min t lo - 1) := bd_between hb (by omega) (fun u h1 h2 hu => by
    obtain ⟨j, hj, rfl⟩ := mem_getD hu
    by_cases z : j = 0
    · subst z; omega
    · have := inc_at h (show 0 < j by omega) hj; omega)
  rw [hlo (min t lo - 1) (by omega)] at e
  rw [e] at k
  exact absurd k.1 (by simp)
theorem res_step {P : Int → Bool} {l : List Int} (h : Inc l) (hb : Bd P l) {i : Nat} (hi : i + 1 < l.length) (r : Res P l i) : Res P l (i + 1) := by
  have lt := inc_at h (show i < i + 1 by omega) hi
  have cst : ∀ t, l.getD i 0 ≤ t → t < l.getD (i + 1) 0 → P t = P (l.getD i 0) := fun t h1 h2 => bd_between hb h1 (fun u a b => inc_gap h hi a (by omega))
  by_cases p : P (l.getD i 0) = true
  · have e : resTo P l (i + 1) = ext (resTo P l i) (l.getD i 0) (l.getD (i + 1) 0) := by show (if _ then _ else _) = _; rw [if_pos p]
    obtain ⟨n, b⟩ := ext_norm r.norm lt r.below
    refine ⟨by rw [e]; exact n, by rw [e]; exact b, fun t => ?_⟩
    rw [e, ext_has r.norm lt, r.times]
    constructor
    · rintro (⟨k1, k2⟩ | ⟨k1, k2⟩)
      · exact ⟨k1, by omega⟩
      · exact ⟨by rw [cst t k1 k2]; exact p, k2⟩
    · rintro ⟨k1, k2⟩
      by_cases q : t < l.getD i 0
      · exact .inl ⟨k1, q⟩
      · exact .inr ⟨by omega, k2⟩
  · have e : resTo P l (i + 1) = resTo P l i := by show (if _ then _ else _) = _; rw [if_neg p]
    refine ⟨by rw [e]; exact r.norm, fun x hx => by rw [e] at hx; have := r.below x hx; omega, fun t => ?_⟩
    rw [e, r.times]
    constructor
    · rintro ⟨k1, k2⟩; exact ⟨k1, by omega⟩
    · rintro ⟨k1, k2⟩
      refine ⟨k1, ?_⟩
      apply Classical.byContradiction
      intro q
      exact p ((cst t (by omega) k2) ▸ k1)
/-- the whole result -/
def res (P : Int → Bool) (l : List Int) : List (Int × Int) := resTo P l (l.length - 1)
theorem res_any {P : Int → Bool} {l : List Int} (h : Inc l) (hb : Bd P l) {lo : Int} (hlo : ∀ t, t < lo → P t = false) : ∀ i, i + 1 ≤ l.length ∨ i = 0 → Res P l i
  | 0, _ => res_start h hb hlo
  | i + 1, q => res_step h hb (by omega) (res_any h hb hlo i (by omega))
theorem res_is {P : Int → Bool} {l : List Int} (h : Inc l) (hb : Bd P l) {lo hi : Int} (hlo : ∀ t, t < lo → P t = false) (hhi : ∀ t, hi < t → P t = false) : Norm (res P l) ∧ ∀ t, has (res P l) t ↔ P t = true := by
  have r := res_any h hb hlo (l.length - 1) (by omega)
  refine ⟨r.norm, fun t => ?_⟩
  unfold res
  rw [r.times]
  refine ⟨fun k => k.1, fun k => ⟨k, ?_⟩⟩
  apply Classical.byContradiction
  intro q
  have e : P (max t hi + 1) = P t := bd_between hb (by omega) (fun u h1 h2 hu => by
    obtain ⟨j, hj, rfl⟩ := mem_getD hu
    by_cases z : j = l.length - 1
    · subst z; omega
    · have := inc_at h (show j < l.length - 1 by omega) (by omega); omega)
  rw [hhi _ (by omega)] at e
  rw [← e] at k
  simp at k
/-- where the times of a list begin and end -/
theorem has_border {l : List (Int × Int)} {t : Int} (h : decide (has l t) ≠ decide (has l (t - 1))) : ∃ x ∈ l, t = x.1 ∨ t = x.2 + 1 := by
  by_cases a : has l t
  · by_cases b : has l (t - 1)
    · simp [a, b] at h
    · obtain ⟨x, hx, h1, h2⟩ := a
      refine ⟨x, hx, .inl ?_⟩
      apply Classical.byContradiction
      intro q
      exact b ⟨x, hx, by omega, by omega⟩
  · by_cases b : has l (t - 1)
    · obtain ⟨x, hx, h1, h2⟩ := b
      refine ⟨x, hx, .inr ?_⟩
      apply Classical.byContradiction
      intro q
      exact a ⟨x, hx, by omega, by omega⟩
    · simp [a, b] at h
/-- the borders of a list -/
def bords : List (Int × Int) → List Int → List Int
  | [], acc => acc
  | x :: r, acc => bords r (ins (ins acc x.1) (x.2 + 1))
theorem bords_inc : ∀ (l : List (Int × Int)) {acc : List Int}, Inc acc → Inc (bords l acc)
  | [], _, h => h
  | _ :: r, _, h => bords_inc r (ins_inc _ (ins_inc _ h))
theorem bords_mem : ∀ (l : List (Int × Int)) (acc : List Int) (u : Int), u ∈ bords l acc ↔ u ∈ acc ∨ ∃ x ∈ l, u = x.1 ∨ u = x.2 + 1
  | [], acc, u => by simp [bords]
  | x :: r, acc, u => by
    unfold bords
    rw [bords_mem r]
    simp only [ins_mem, List.mem_cons, exists_eq_or_imp]
    constructor
    · rintro ((h | h | h) | h) <;> simp [h]
    · rintro (h | (h | h) | h) <;> simp [h]
end Go.Proofs.YtljackjcgfaanaaGreatDoor.Bk
/- Plain facts on lists of spans: their errors, what belongs to a result of two lists, how many times lie in a stretch, the first free time. No program stands here. -/
namespace Go.Proofs.YtljackjcgfaanaaGreatDoor.Bk

/-- a valid time -/
def okT (t : Int) : Prop := 0 ≤ t ∧ t ≤ 253402300799
instance (t : Int) : Decidable (okT t) := by unfold okT; infer_instance
/-- the spans of a valid list -/
def OkS (l : List (Int × Int)) : Prop := ∀ x ∈ l, okT x.1 ∧ okT x.2 ∧ x.1 ≤ x.2
/-- a valid list -/
def OkL (l : List (Int × Int)) : Prop := l.length ≤ 64 ∧ OkS l
/-- the first error, span by span -/
def errS : List (Int × Int) → Int
  | [] => 0
  | x :: r => if okT x.1 ∧ okT x.2 then (if x.2 < x.1 then 8 else errS r) else 14
/-- the errors of a list -/
def errL (l : List (Int × Int)) : Int := if 64 < l.length then 12 else errS l
theorem errS_zero : ∀ {l : List (Int × Int)}, errS l = 0 ↔ OkS l
  | [] => by simp [errS, OkS]
  | x :: r => by
    unfold errS
    by_cases h : okT x.1 ∧ okT x.2
    · rw [if_pos h]
      by_cases k : x.2 < x.1
      · rw [if_pos k]
        refine ⟨fun e => by simp at e, fun q => ?_⟩
        have := (q x List.mem_cons_self).2.2
        omega
      · rw [if_neg k, errS_zero]
        constructor
        · intro q y hy
          rcases List.mem_cons.1 hy with e | e
          · subst e; exact ⟨h.1, h.2, by omega⟩
          · exact q y e
        · intro q y hy
          exact q y (List.mem_cons_of_mem _ hy)
    · rw [if_neg h]
      refine ⟨fun e => by simp at e, fun q => ?_⟩
      have := q x List.mem_cons_self
      exact absurd ⟨this.1, this.2.1⟩ h
theorem errL_zero {l : List (Int × Int)} : errL l = 0 ↔ OkL l := by
  unfold errL OkL
  by_cases h : 64 < l.length
  · rw [if_pos h]; exact ⟨fun e => by simp at e, fun q => by omega⟩
  · rw [if_neg h, errS_zero]; exact ⟨fun q => ⟨by omega, q⟩, fun q => q.2⟩
/-- the errors of a list whose first k spans are in order -/
theorem errS_skip : ∀ {l : List (Int × Int)} {k : Nat}, (∀ j, j < k → okT (l.getD j (0, 0)).1 ∧ okT (l.getD j (0, 0)).2 ∧ (l.getD j (0, 0)).1 ≤ (l.getD j (0, 0)).2) → k ≤ l.length → errS l = errS (l.drop k)
  | _, 0, _, _ => by simp
  | [], k + 1, _, h => by simp at h
  | x :: r, k + 1, h, hk => by
    have a := h 0 (by omega)
    simp only [List.getD_cons_zero] at a
    have e : errS (x :: r) = errS r := by
      show (if _ then _ else _) = _
      rw [if_pos ⟨a.1, a.2.1⟩, if_neg (by omega)]
    rw [e, List.drop_succ_cons]
    exact errS_skip (fun j hj => by have := h (j + 1) (by omega); simpa using this) (by simpa using hk)
theorem OkS.append {a b : List (Int × Int)} (h : OkS a) (k : OkS b) : OkS (a ++ b) := fun x hx => by
  rcases List.mem_append.1 hx with q | q
  · exact h x q
  · exact k x q
theorem OkS.has {l : List (Int × Int)} (h : OkS l) {t : Int} (k : Bk.has l t) : okT t := by
  obtain ⟨x, hx, h1, h2⟩ := k
  obtain ⟨a, b, _⟩ := h x hx
  exact ⟨by have := a.1; omega, by have := b.2; omega⟩

/-- what belongs to a result: the times of either list (1), of both (2), of the first one alone (3) -/
def want (a b : List (Int × Int)) (k : Int) (t : Int) : Bool := if k = 1 then decide (has a t) || decide (has b t) else if k = 2 then decide (has a t) && decide (has b t) else decide (has a t) && !decide (has b t)
theorem want_bd (a b : List (Int × Int)) (k : Int) : Bd (want a b k) (bords (a ++ b) []) := by
  intro t h
  have q : decide (has a t) ≠ decide (has a (t - 1)) ∨ decide (has b t) ≠ decide (has b (t - 1)) := by
    apply Classical.byContradiction
    intro q
    have q1 : decide (has a t) = decide (has a (t - 1)) := Classical.byContradiction fun e => q (.inl e)
    have q2 : decide (has b t) = decide (has b (t - 1)) := Classical.byContradiction fun e => q (.inr e)
    exact h (by unfold want; rw [q1, q2])
  rw [bords_mem]
  right
  rcases q with q | q
  · obtain ⟨x, hx, e⟩ := has_border q
    exact ⟨x, List.mem_append_left _ hx, e⟩
  · obtain ⟨x, hx, e⟩ := has_border q
    exact ⟨x, List.mem_append_right _ hx, e⟩
theorem want_ok {a b : List (Int × Int)} {k t : Int} (ha : OkS a) (hb : OkS b) (h : want a b k t = true) : okT t := by
  unfold want at h
  split at h
  · simp only [Bool.or_eq_true, decide_eq_true_eq] at h
    rcases h with h | h
    · exact ha.has h
    · exact hb.has h
  · split at h
    · simp only [Bool.and_eq_true, decide_eq_true_eq] at h; exact ha.has h.1
    · simp only [Bool.and_eq_true, decide_eq_true_eq] at h; exact ha.has h.1
/-- the result of two lists -/
structure IsRes (a b : List (Int × Int)) (k : Int) (l : List (Int × Int)) : Prop where
  norm : Norm l
  times : ∀ t, has l t ↔ want a b k t = true
theorem IsRes.uniq {a b l m : List (Int × Int)} {k : Int} (h : IsRes a b k l) (h' : IsRes a b k m) : l = m :=
  norm_uniq h.norm h'.norm fun t => (h.times t).trans (h'.times t).symm
theorem want_res {a b : List (Int × Int)} (k : Int) (ha : OkS a) (hb : OkS b) : IsRes a b k (res (want a b k) (bords (a ++ b) [])) := by
  obtain ⟨h1, h2⟩ := res_is (P := want a b k) (lo := 0) (hi := 253402300799) (bords_inc (a ++ b) (acc := []) List.Pairwise.nil) (want_bd a b k) (fun t ht => by
    apply Classical.byContradiction
    intro q
    have := (want_ok (k := k) (t := t) ha hb (by simpa using q)).1
    omega) (fun t ht => by
    apply Classical.byContradiction
    intro q
    have := (want_ok (k := k) (t := t) ha hb (by simpa using q)).2
    omega)
  exact ⟨h1, h2⟩
theorem IsRes.ok {a b l : List (Int × Int)} {k : Int} (h : IsRes a b k l) (ha : OkS a) (hb : OkS b) : OkS l := fun x hx => by
  have le := h.norm.le x hx
  exact ⟨want_ok ha hb ((h.times x.1).1 ⟨x, hx, by omega, le⟩), want_ok ha hb ((h.times x.2).1 ⟨x, hx, le, by omega⟩), le⟩
/-- it goes by the times alone -/
theorem IsRes.same {a b a' b' l : List (Int × Int)} {k : Int} (ha : ∀ t, has a t ↔ has a' t) (hb : ∀ t, has b t ↔ has b' t) (h : IsRes a b k l) : IsRes a' b' k l := ⟨h.norm, fun t => by
  rw [h.times]
  unfold want
  rw [show decide (has a t) = decide (has a' t) from decide_eq_decide.2 (ha t), show decide (has b t) = decide (has b' t) from decide_eq_decide.2 (hb t)]⟩
theorem res_one {l n : List (Int × Int)} (h : IsRes l [] 1 n) (t : Int) : has n t ↔ has l t := by
  rw [h.times]; unfold want; rw [if_pos rfl]; simp [has_nil]
theorem want_2 {a b : List (Int × Int)} {t : Int} : want a b 2 t = true ↔ has a t ∧ has b t := by unfold want; rw [if_neg (by omega), if_pos rfl]; simp
theorem want_3 {a b : List (Int × Int)} {t : Int} : want a b 3 t = true ↔ has a t ∧ ¬ has b t := by unfold want; rw [if_neg (by omega), if_neg (by omega)]; simp
theorem ins_len : ∀ (l : List Int) (t : Int), (ins l t).length ≤ l.length + 1
  | [], t => by simp [ins]
  | x :: r, t => by
    unfold ins
    split
    · have := ins_len r t; simp; omega
    · split <;> simp
theorem bords_len : ∀ (l : List (Int × Int)) (acc : List Int), (bords l acc).length ≤ acc.length + 2 * l.length
  | [], acc => by simp [bords]
  | x :: r, acc => by
    have h := bords_len r (ins (ins acc x.1) (x.2 + 1))
    have h1 := ins_len acc x.1
    have h2 := ins_len (ins acc x.1) (x.2 + 1)
    unfold bords
    simp only [List.length_cons]
    omega

/-- how many of so many numbers from a on belong to it -/
def cnt (P : Int → Bool) (a : Int) : Nat → Int
  | 0 => 0
  | n + 1 => cnt P a n + (if P (a + n) = true then 1 else 0)
theorem cnt_succ (P : Int → Bool) (a : Int) (n : Nat) : cnt P a (n + 1) = cnt P a n + (if P (a + n) = true then 1 else 0) := rfl
theorem cnt_add (P : Int → Bool) (a : Int) (n : Nat) : ∀ m : Nat, cnt P a (n + m) = cnt P a n + cnt P (a + n) m
  | 0 => by simp [cnt]
  | m + 1 => by
    rw [← Nat.add_assoc, cnt_succ, cnt_succ, cnt_add P a n m, show a + ((n + m : Nat) : Int) = a + n + m by omega]
    omega
theorem cnt_congr {P Q : Int → Bool} {a : Int} : ∀ {n : Nat}, (∀ t, a ≤ t → t < a + n → P t = Q t) → cnt P a n = cnt Q a n
  | 0, _ => rfl
  | n + 1, h => by
    rw [cnt_succ, cnt_succ, cnt_congr (fun t h1 h2 => h t h1 (by omega)), h (a + n) (by omega) (by omega)]
theorem cnt_false (a : Int) : ∀ n : Nat, cnt (fun _ => false) a n = 0
  | 0 => rfl
  | n + 1 => by rw [cnt_succ, cnt_false a n]; simp
theorem cnt_true (a : Int) : ∀ n : Nat, cnt (fun _ => true) a n = n
  | 0 => rfl
  | n + 1 => by rw [cnt_succ, cnt_true a n]; simp
/-- the lengths of spans, added up -/
def sumL : List (Int × Int) → Int
  | [] => 0
  | x :: r => (x.2 - x.1 + 1) + sumL r
theorem sumL_is : ∀ {l : List (Int × Int)} {a : Int} {n : Nat}, Norm l → (∀ x ∈ l, a ≤ x.1 ∧ x.2 < a + n) → sumL l = cnt (fun t => decide (has l t)) a n
  | [], a, n, _, _ => by
    rw [cnt_congr (Q := fun _ => false) (fun t _ _ => by simp [has_nil]), cnt_false]
    rfl
  | x :: r, a, n, h, hb => by
    obtain ⟨nr, le, gp⟩ := h.tail
    obtain ⟨b1, b2⟩ := hb x List.mem_cons_self
    obtain ⟨p, hp⟩ := Int.eq_ofNat_of_zero_le (show 0 ≤ x.1 - a by omega)
    obtain ⟨q, hq⟩ := Int.eq_ofNat_of_zero_le (show 0 ≤ x.2 - x.1 + 1 by omega)
    obtain ⟨s, hs⟩ := Int.eq_ofNat_of_zero_le (show 0 ≤ a + n - (x.2 + 1) by omega)
    have en : n = p + (q + s) := by omega
    have ih := sumL_is (l := r) (a := x.2 + 1) (n := s) nr (fun y hy => ⟨by have := gp y hy; omega, by have := (hb y (List.mem_cons_of_mem _ hy)).2; omega⟩)
    rw [en, cnt_add, cnt_add, show a + (p : Int) = x.1 by omega, show x.1 + (q : Int) = x.2 + 1 by omega]
    have c1 : cnt (fun t => decide (has (x :: r) t)) a p = 0 := by
      rw [cnt_congr (Q := fun _ => false) (fun t h1 h2 => by
        have : ¬ has (x :: r) t := fun k => by have := h.first k; omega
        simpa using this), cnt_false]
    have c2 : cnt (fun t => decide (has (x :: r) t)) x.1 q = q := by
      rw [cnt_congr (Q := fun _ => true) (fun t h1 h2 => by simpa using has_cons.2 (.inl ⟨h1, by omega⟩)), cnt_true]
    have c3 : cnt (fun t => decide (has (x :: r) t)) (x.2 + 1) s = cnt (fun t => decide (has r t)) (x.2 + 1) s := cnt_congr (fun t h1 h2 => by
      rw [decide_eq_decide, has_cons]
      exact ⟨fun k => by
        rcases k with k | k
        · omega
        · exact k, fun k => .inr k⟩)
    rw [c1, c2, c3, ← ih]
    show (x.2 - x.1 + 1) + sumL r = _
    omega
/-- how many times from a to b a list has -/
def len (l : List (Int × Int)) (a b : Int) : Int := cnt (fun t => decide (has l t)) a (b - a + 1).toNat
theorem len_is {l n : List (Int × Int)} {a b : Int} (le : a ≤ b) (h : IsRes l [(a, b)] 2 n) : sumL n = len l a b := by
  have inside : ∀ t, has n t ↔ has l t ∧ (a ≤ t ∧ t ≤ b) := fun t => by rw [h.times, want_2, has_one]
  rw [sumL_is (a := a) (n := (b - a + 1).toNat) h.norm (fun x hx => by
    have lx := h.norm.le x hx
    have h1 := ((inside x.1).1 ⟨x, hx, by omega, lx⟩).2
    have h2 := ((inside x.2).1 ⟨x, hx, lx, by omega⟩).2
    omega)]
  unfold len
  exact cnt_congr (fun t h1 h2 => by
    rw [decide_eq_decide, inside]
    exact ⟨fun k => k.1, fun k => ⟨k, by omega⟩⟩)
/-- the first free time from t on -/
def IsFree (l : List (Int × Int)) (t v : Int) (b : Bool) : Prop := (b = true ∧ t ≤ v ∧ v ≤ 253402300799 ∧ ¬ has l v ∧ ∀ u, t ≤ u → u < v → has l u) ∨ (b = false ∧ v = 0 ∧ ∀ u, t ≤ u → u ≤ 253402300799 → has l u)
theorem IsFree.uniq {l : List (Int × Int)} {t v v' : Int} {b b' : Bool} (h : IsFree l t v b) (h' : IsFree l t v' b') : v = v' ∧ b = b' := by
  rcases h with ⟨rfl, h1, h2, h3, h4⟩ | ⟨rfl, rfl, h4⟩ <;> rcases h' with ⟨rfl, k1, k2, k3, k4⟩ | ⟨rfl, rfl, k4⟩
  · refine ⟨?_, rfl⟩
    have a : ¬ v < v' := fun q => h3 (k4 v h1 q)
    have b : ¬ v' < v := fun q => k3 (h4 v' k1 q)
    omega
  · exact absurd (k4 v h1 h2) h3
  · exact absurd (h4 v' k1 k2) k3
  · exact ⟨rfl, rfl⟩
theorem IsFree.same {l m : List (Int × Int)} {t v : Int} {b : Bool} (e : ∀ t, has l t ↔ has m t) (h : IsFree l t v b) : IsFree m t v b := by
  rcases h with ⟨rfl, h1, h2, h3, h4⟩ | ⟨rfl, rfl, h4⟩
  · exact .inl ⟨rfl, h1, h2, fun k => h3 ((e v).2 k), fun u a b => (e u).1 (h4 u a b)⟩
  · exact .inr ⟨rfl, rfl, fun u a b => (e u).1 (h4 u a b)⟩
/-- pushed on, span by span -/
def fre : List (Int × Int) → Int → Int
  | [], t => t
  | x :: r, t => fre r (if x.1 ≤ t ∧ t ≤ x.2 then x.2 + 1 else t)
theorem fre_id : ∀ {l : List (Int × Int)} {t : Int}, ¬ has l t → fre l t = t
  | [], t, _ => rfl
  | x :: r, t, h => by
    unfold fre
    rw [if_neg (fun k => h (has_cons.2 (.inl k)))]
    exact fre_id (fun k => h (has_cons.2 (.inr k)))
theorem fre_is : ∀ {l : List (Int × Int)} {t : Int}, Norm l → t ≤ fre l t ∧ ¬ has l (fre l t) ∧ ∀ u, t ≤ u → u < fre l t → has l u
  | [], t, _ => ⟨Int.le_refl _, has_nil _, fun u h1 h2 => by unfold fre at h2; omega⟩
  | x :: r, t, h => by
    obtain ⟨nr, le, gp⟩ := h.tail
    unfold fre
    by_cases k : x.1 ≤ t ∧ t ≤ x.2
    · rw [if_pos k]
      have n : ¬ has r (x.2 + 1) := fun q => by have := h.has_tail q; omega
      rw [fre_id n]
      refine ⟨by omega, fun q => ?_, fun u h1 h2 => has_cons.2 (.inl (by omega))⟩
      rcases has_cons.1 q with q | q
      · omega
      · exact n q
    · rw [if_neg k]
      obtain ⟨a, b, c⟩ := fre_is (l := r) (t := t) nr
      refine ⟨a, fun q => ?_, fun u h1 h2 => has_cons.2 (.inr (c u h1 h2))⟩
      rcases has_cons.1 q with q | q
      · by_cases e : fre r t = t
        · rw [e] at q; exact k q
        · have := h.has_tail (c t (by omega) (by omega)); omega
      · exact b q
theorem fre_free {l : List (Int × Int)} {t : Int} (h : Norm l) : (fre l t ≤ 253402300799 → IsFree l t (fre l t) true) ∧ (253402300799 < fre l t → IsFree l t 0 false) := by
  obtain ⟨a, b, c⟩ := fre_is (t := t) h
  exact ⟨fun k => .inl ⟨rfl, a, k, b, c⟩, fun k => .inr ⟨rfl, rfl, fun u h1 h2 => c u h1 (by omega)⟩⟩
theorem free_ex {l : List (Int × Int)} (t : Int) (h : OkS l) : ∃ v b, IsFree l t v b := by
  have n := want_res (a := l) (b := []) 1 h (fun x hx => by simp at hx)
  obtain ⟨f1, f2⟩ := fre_free (t := t) n.norm
  by_cases k : fre (res (want l [] 1) (bords (l ++ []) [])) t ≤ 253402300799
  · exact ⟨_, _, (f1 k).same (res_one n)⟩
  · exact ⟨_, _, (f2 (by omega)).same (res_one n)⟩
end Go.Proofs.YtljackjcgfaanaaGreatDoor.Bk
/- Plain facts on the edges of two lists of spans: sorted edges, the borders that they make, the result built up border by border. No program stands here. -/
namespace Go.Proofs.YtljackjcgfaanaaGreatDoor.Bk

/-- so many spans of the first list, and of the second, begin (or have ended) at a time -/
def edgesA (l : List (Int × Int)) : List (Int × Int × Int) := l.flatMap fun s => [(s.1, 1, 0), (s.2 + 1, -1, 0)]
def edgesB (l : List (Int × Int)) : List (Int × Int × Int) := l.flatMap fun s => [(s.1, 0, 1), (s.2 + 1, 0, -1)]
def edgesL (a b : List (Int × Int)) : List (Int × Int × Int) := edgesA a ++ edgesB b
theorem edgesA_snoc (l : List (Int × Int)) (s : Int × Int) : edgesA (l ++ [s]) = edgesA l ++ [(s.1, 1, 0), (s.2 + 1, -1, 0)] := by simp [edgesA]
theorem edgesB_snoc (l : List (Int × Int)) (s : Int × Int) : edgesB (l ++ [s]) = edgesB l ++ [(s.1, 0, 1), (s.2 + 1, 0, -1)] := by simp [edgesB]
theorem edgesA_len (l : List (Int × Int)) : (edgesA l).length = 2 * l.length := by
  induction l with
  | nil => rfl
  | cons s r ih => simp only [edgesA, List.flatMap_cons, List.length_append, List.length_cons, List.length_nil] at ih ⊢; omega
theorem edgesB_len (l : List (Int × Int)) : (edgesB l).length = 2 * l.length := by
  induction l with
  | nil => rfl
  | cons s r ih => simp only [edgesB, List.flatMap_cons, List.length_append, List.length_cons, List.length_nil] at ih ⊢; omega
theorem edgesL_len (a b : List (Int × Int)) : (edgesL a b).length = 2 * a.length + 2 * b.length := by
  unfold edgesL
  rw [List.length_append, edgesA_len, edgesB_len]

/-- added up -/
def sm (f : Int × Int × Int → Int) : List (Int × Int × Int) → Int
  | [] => 0
  | e :: r => f e + sm f r
theorem sm_append (f : Int × Int × Int → Int) (l m : List (Int × Int × Int)) : sm f (l ++ m) = sm f l + sm f m := by
  induction l with
  | nil => simp [sm]
  | cons e r ih => simp only [List.cons_append, sm, ih]; omega
theorem sm_perm {f : Int × Int × Int → Int} {l m : List (Int × Int × Int)} (h : l.Perm m) : sm f l = sm f m := by
  induction h with
  | nil => rfl
  | cons x _ ih => simp only [sm, ih]
  | swap x y l => simp only [sm]; omega
  | trans _ _ h1 h2 => exact h1.trans h2
theorem sm_bound {f : Int × Int × Int → Int} : ∀ {l : List (Int × Int × Int)}, (∀ e ∈ l, -1 ≤ f e ∧ f e ≤ 1) → -(l.length : Int) ≤ sm f l ∧ sm f l ≤ l.length
  | [], _ => by simp [sm]
  | e :: r, h => by
    have a := h e List.mem_cons_self
    have b := sm_bound (l := r) (fun x hx => h x (List.mem_cons_of_mem _ hx))
    simp only [sm, List.length_cons]
    omega
theorem edges_small {a b : List (Int × Int)} {e : Int × Int × Int} (h : e ∈ edgesL a b) : (-1 ≤ e.2.1 ∧ e.2.1 ≤ 1) ∧ (-1 ≤ e.2.2 ∧ e.2.2 ≤ 1) := by
  unfold edgesL edgesA edgesB at h
  simp only [List.mem_append, List.mem_flatMap, List.mem_cons, List.not_mem_nil, or_false] at h
  rcases h with ⟨s, _, h | h⟩ | ⟨s, _, h | h⟩ <;> subst h <;> simp
theorem edges_mem {a b : List (Int × Int)} {u : Int} : (∃ e ∈ edgesL a b, e.1 = u) ↔ ∃ x ∈ a ++ b, u = x.1 ∨ u = x.2 + 1 := by
  unfold edgesL edgesA edgesB
  simp only [List.mem_append, List.mem_flatMap, List.mem_cons, List.not_mem_nil, or_false]
  constructor
  · rintro ⟨e, ⟨s, hs, h | h⟩ | ⟨s, hs, h | h⟩, rfl⟩ <;> subst h
    · exact ⟨s, .inl hs, .inl rfl⟩
    · exact ⟨s, .inl hs, .inr rfl⟩
    · exact ⟨s, .inr hs, .inl rfl⟩
    · exact ⟨s, .inr hs, .inr rfl⟩
  · rintro ⟨s, hs | hs, h | h⟩
    · exact ⟨_, .inl ⟨s, hs, .inl rfl⟩, h.symm⟩
    · exact ⟨_, .inl ⟨s, hs, .inr rfl⟩, h.symm⟩
    · exact ⟨_, .inr ⟨s, hs, .inl rfl⟩, h.symm⟩
    · exact ⟨_, .inr ⟨s, hs, .inr rfl⟩, h.symm⟩
/-- how many spans of a list have a time -/
def cntH (t : Int) : List (Int × Int) → Int
  | [] => 0
  | x :: r => (if x.1 ≤ t ∧ t ≤ x.2 then 1 else 0) + cntH t r
theorem cntH_nonneg (t : Int) : ∀ l, 0 ≤ cntH t l
  | [] => by simp [cntH]
  | x :: r => by have := cntH_nonneg t r; unfold cntH; split <;> omega
theorem cntH_pos (t : Int) : ∀ l, 0 < cntH t l ↔ has l t
  | [] => by simp [cntH, has_nil]
  | x :: r => by
    have n := cntH_nonneg t r
    have ih := cntH_pos t r
    unfold cntH
    rw [has_cons, ← ih]
    split
    · rename_i h; exact ⟨fun _ => .inl h, fun _ => by omega⟩
    · rename_i h
      constructor
      · intro q; exact .inr (by omega)
      · rintro (q | q)
        · exact absurd q h
        · omega
theorem sm_A (t : Int) : ∀ {l : List (Int × Int)}, (∀ x ∈ l, x.1 ≤ x.2) → sm (·.2.1) ((edgesA l).filter fun e => decide (e.1 ≤ t)) = cntH t l ∧ sm (·.2.2) ((edgesA l).filter fun e => decide (e.1 ≤ t)) = 0
  | [], _ => ⟨rfl, rfl⟩
  | x :: r, h => by
    have a := h x List.mem_cons_self
    obtain ⟨i1, i2⟩ := sm_A t (l := r) (fun y hy => h y (List.mem_cons_of_mem _ hy))
    simp only [edgesA, List.flatMap_cons, List.filter_append, sm_append, cntH] at i1 i2 ⊢
    rw [i1, i2]
    by_cases h1 : x.1 ≤ t <;> by_cases h2 : x.2 + 1 ≤ t <;> by_cases h3 : t ≤ x.2 <;> simp [h1, h2, h3, sm] <;> omega
theorem sm_B (t : Int) : ∀ {l : List (Int × Int)}, (∀ x ∈ l, x.1 ≤ x.2) → sm (·.2.2) ((edgesB l).filter fun e => decide (e.1 ≤ t)) = cntH t l ∧ sm (·.2.1) ((edgesB l).filter fun e => decide (e.1 ≤ t)) = 0
  | [], _ => ⟨rfl, rfl⟩
  | x :: r, h => by
    have a := h x List.mem_cons_self
    obtain ⟨i1, i2⟩ := sm_B t (l := r) (fun y hy => h y (List.mem_cons_of_mem _ hy))
    simp only [edgesB, List.flatMap_cons, List.filter_append, sm_append, cntH] at i1 i2 ⊢
    rw [i1, i2]
    by_cases h1 : x.1 ≤ t <;> by_cases h2 : x.2 + 1 ≤ t <;> by_cases h3 : t ≤ x.2 <;> simp [h1, h2, h3, sm] <;> omega
theorem filter_split {p q : List (Int × Int × Int)} {t : Int} (hp : ∀ x ∈ p, x.1 ≤ t) (hq : ∀ x ∈ q, t < x.1) : (p ++ q).filter (fun e => decide (e.1 ≤ t)) = p := by
  rw [List.filter_append, List.filter_eq_self.2 (fun x hx => by simpa using hp x hx), List.filter_eq_nil_iff.2 (fun x hx => by have := hq x hx; simp; omega), List.append_nil]
/-- sorted edges: so many around a time as spans that have it -/
theorem edge_at {a b : List (Int × Int)} {E p q : List (Int × Int × Int)} {t : Int} (ha : OkS a) (hb : OkS b) (h : E.Perm (edgesL a b)) (hE : E = p ++ q) (hp : ∀ x ∈ p, x.1 ≤ t) (hq : ∀ x ∈ q, t < x.1) :
    (0 < sm (·.2.1) p ↔ has a t) ∧ (0 < sm (·.2.2) p ↔ has b t) := by
  have f := filter_split hp hq
  rw [← hE] at f
  have pm := h.filter (fun e => decide (e.1 ≤ t))
  rw [f] at pm
  obtain ⟨a1, a2⟩ := sm_A t (l := a) (fun x hx => (ha x hx).2.2)
  obtain ⟨b1, b2⟩ := sm_B t (l := b) (fun x hx => (hb x hx).2.2)
  rw [sm_perm pm, sm_perm pm]
  unfold edgesL
  rw [List.filter_append, sm_append, sm_append, a1, a2, b1, b2, ← cntH_pos t a, ← cntH_pos t b]
  constructor <;> (constructor <;> intro k <;> omega)

/-- each time of sorted edges once -/
def grp : List (Int × Int × Int) → List Int
  | [] => []
  | [e] => [e.1]
  | e :: f :: r => if f.1 = e.1 then grp (f :: r) else e.1 :: grp (f :: r)
theorem grp_mem : ∀ (l : List (Int × Int × Int)) (u : Int), u ∈ grp l ↔ ∃ e ∈ l, e.1 = u
  | [], u => by simp [grp]
  | [e], u => by simp [grp, eq_comm]
  | e :: f :: r, u => by
    have ih := grp_mem (f :: r) u
    unfold grp
    split
    · rename_i h
      rw [ih]
      constructor
      · rintro ⟨x, hx, k⟩; exact ⟨x, List.mem_cons_of_mem _ hx, k⟩
      · rintro ⟨x, hx, k⟩
        rcases List.mem_cons.1 hx with q | q
        · subst q; exact ⟨f, List.mem_cons_self, h.trans k⟩
        · exact ⟨x, q, k⟩
    · rw [List.mem_cons, ih]
      constructor
      · rintro (k | ⟨x, hx, k⟩)
        · exact ⟨e, List.mem_cons_self, k.symm⟩
        · exact ⟨x, List.mem_cons_of_mem _ hx, k⟩
      · rintro ⟨x, hx, k⟩
        rcases List.mem_cons.1 hx with q | q
        · subst q; exact .inl k.symm
        · exact .inr ⟨x, q, k⟩
/-- sorted by time -/
def Srt (l : List (Int × Int × Int)) : Prop := l.Pairwise fun x y => x.1 ≤ y.1
theorem grp_inc : ∀ {l : List (Int × Int × Int)}, Srt l → Inc (grp l)
  | [], _ => List.Pairwise.nil
  | [e], _ => by simp [grp, Inc]
  | e :: f :: r, h => by
    unfold Srt at h
    rw [List.pairwise_cons] at h
    have ih := grp_inc (l := f :: r) h.2
    unfold grp
    split
    · exact ih
    · rename_i ne
      unfold Inc at ih ⊢
      rw [List.pairwise_cons]
      refine ⟨fun u hu => ?_, ih⟩
      obtain ⟨x, hx, rfl⟩ := (grp_mem _ u).1 hu
      have a := h.1 f List.mem_cons_self
      rcases List.mem_cons.1 hx with q | q
      · subst q; omega
      · have := (List.pairwise_cons.1 h.2).1 x q; omega
theorem inc_uniq : ∀ {l m : List Int}, Inc l → Inc m → (∀ u, u ∈ l ↔ u ∈ m) → l = m
  | [], [], _, _, _ => rfl
  | [], y :: q, _, _, h => absurd ((h y).2 List.mem_cons_self) (by simp)
  | x :: r, [], _, _, h => absurd ((h x).1 List.mem_cons_self) (by simp)
  | x :: r, y :: q, hl, hm, h => by
    unfold Inc at hl hm
    rw [List.pairwise_cons] at hl hm
    have e : x = y := by
      rcases List.mem_cons.1 ((h x).1 List.mem_cons_self) with k | k
      · exact k
      · rcases List.mem_cons.1 ((h y).2 List.mem_cons_self) with j | j
        · exact j.symm
        · have := hm.1 x k; have := hl.1 y j; omega
    subst e
    congr 1
    refine inc_uniq hl.2 hm.2 fun u => ?_
    constructor
    · intro k
      rcases List.mem_cons.1 ((h u).1 (List.mem_cons_of_mem _ k)) with j | j
      · have := hl.1 u k; omega
      · exact j
    · intro k
      rcases List.mem_cons.1 ((h u).2 (List.mem_cons_of_mem _ k)) with j | j
      · have := hm.1 u k; omega
      · exact j
theorem grp_is {a b : List (Int × Int)} {E : List (Int × Int × Int)} (hs : Srt E) (h : E.Perm (edgesL a b)) : grp E = bords (a ++ b) [] := by
  refine inc_uniq (grp_inc hs) (bords_inc _ List.Pairwise.nil) fun u => ?_
  rw [grp_mem, bords_mem, ← edges_mem]
  constructor
  · rintro ⟨e, he, k⟩; exact .inr ⟨e, h.mem_iff.1 he, k⟩
  · rintro (k | ⟨e, he, k⟩)
    · simp at k
    · exact ⟨e, h.mem_iff.2 he, k⟩
/-- the borders of two lists, with who has the times from there on -/
def borT (a b : List (Int × Int)) (t : Int) : Int × Bool × Bool := (t, decide (has a t), decide (has b t))
def bor (a b : List (Int × Int)) : List (Int × Bool × Bool) := (bords (a ++ b) []).map (borT a b)
theorem bor_len (a b : List (Int × Int)) : (bor a b).length ≤ 2 * (a.length + b.length) := by
  have := bords_len (a ++ b) []
  simp only [List.length_nil, List.length_append] at this
  unfold bor
  rw [List.length_map]
  omega
theorem drop_cons {E : List (Int × Int × Int)} {i : Nat} (h : i < E.length) : E.drop i = E.getD i (0, 0, 0) :: E.drop (i + 1) := by
  rw [List.drop_eq_getElem_cons h]
  simp [h]
theorem take_snoc {E : List (Int × Int × Int)} {i : Nat} (h : i < E.length) : E.take (i + 1) = E.take i ++ [E.getD i (0, 0, 0)] := by
  rw [List.take_add_one]
  simp [h]
/-- one edge further: the next one is at the same time -/
theorem grp_skip {E : List (Int × Int × Int)} {i : Nat} (h : i + 1 < E.length) (e : (E.getD (i + 1) (0, 0, 0)).1 = (E.getD i (0, 0, 0)).1) : grp (E.drop i) = grp (E.drop (i + 1)) := by
  rw [drop_cons (i := i) (by omega), drop_cons h, grp, if_pos e]
/-- one edge further: it was the last one at its time -/
theorem grp_step {E : List (Int × Int × Int)} {i : Nat} (h : i < E.length) (e : i + 1 < E.length → (E.getD (i + 1) (0, 0, 0)).1 ≠ (E.getD i (0, 0, 0)).1) : grp (E.drop i) = (E.getD i (0, 0, 0)).1 :: grp (E.drop (i + 1)) := by
  rw [drop_cons h]
  by_cases k : i + 1 < E.length
  · rw [drop_cons k, grp, if_neg (e k)]
  · rw [List.drop_eq_nil_of_le (by omega)]
    rfl
theorem srt_at {E : List (Int × Int × Int)} (hs : Srt E) {i j : Nat} (hij : i ≤ j) (hj : j < E.length) : (E.getD i (0, 0, 0)).1 ≤ (E.getD j (0, 0, 0)).1 := by
  by_cases e : i = j
  · subst e; exact Int.le_refl _
  · have := List.pairwise_iff_getElem.1 hs i j (by omega) hj (by omega)
    simpa [hj, show i < E.length by omega] using this
theorem step_who {a b : List (Int × Int)} {E : List (Int × Int × Int)} (ha : OkS a) (hb : OkS b) (hs : Srt E) (hE : E.Perm (edgesL a b)) {i : Nat} (h : i < E.length) (e : i + 1 < E.length → (E.getD (i + 1) (0, 0, 0)).1 ≠ (E.getD i (0, 0, 0)).1) :
    (0 < sm (·.2.1) (E.take (i + 1)) ↔ has a (E.getD i (0, 0, 0)).1) ∧ (0 < sm (·.2.2) (E.take (i + 1)) ↔ has b (E.getD i (0, 0, 0)).1) := by
  refine edge_at ha hb hE (List.take_append_drop (i + 1) E).symm (fun x hx => ?_) (fun x hx => ?_)
  · obtain ⟨j, hj, rfl⟩ := List.getElem_of_mem hx
    rw [List.length_take] at hj
    have := srt_at hs (i := j) (j := i) (by omega) h
    rw [List.getElem_take]
    simpa [show j < E.length by omega] using this
  · obtain ⟨j, hj, rfl⟩ := List.getElem_of_mem hx
    rw [List.length_drop] at hj
    have a1 := srt_at hs (i := i) (j := i + 1) (by omega) (by omega)
    have a2 := srt_at hs (i := i + 1) (j := i + 1 + j) (by omega) (by omega)
    have a3 := e (by omega)
    rw [List.getElem_drop]
    have : E.getD (i + 1 + j) (0, 0, 0) = E[i + 1 + j] := by simp [show i + 1 + j < E.length by omega]
    rw [this] at a2
    omega
theorem perm_small {a b : List (Int × Int)} {E : List (Int × Int × Int)} (hE : E.Perm (edgesL a b)) (i : Nat) : (-(E.length : Int) ≤ sm (·.2.1) (E.take i) ∧ sm (·.2.1) (E.take i) ≤ E.length) ∧ (-(E.length : Int) ≤ sm (·.2.2) (E.take i) ∧ sm (·.2.2) (E.take i) ≤ E.length) := by
  have l : (E.take i).length ≤ E.length := by rw [List.length_take]; omega
  have m : ∀ e ∈ E.take i, e ∈ edgesL a b := fun e he => hE.mem_iff.1 (List.mem_of_mem_take he)
  have h1 := sm_bound (f := (·.2.1)) (l := E.take i) (fun e he => (edges_small (m e he)).1)
  have h2 := sm_bound (f := (·.2.2)) (l := E.take i) (fun e he => (edges_small (m e he)).2)
  omega
/-- the state behind some borders: the spans so far, whether a span is open, where it (or the last gap) began -/
structure St where
  out : List (Int × Int)
  ins : Bool
  fr : Int
def step (s : St) (t : Int) (p : Bool) : St := if p = s.ins then s else if s.ins = true then ⟨s.out ++ [(s.fr, t - 1)], false, t⟩ else ⟨s.out, true, t⟩
def run (f : Bool → Bool → Bool) : List (Int × Bool × Bool) → St → St
  | [], s => s
  | x :: r, s => run f r (step s x.1 (f x.2.1 x.2.2))
theorem step_len (s : St) (t : Int) (p : Bool) : (step s t p).out.length ≤ s.out.length + 1 := by
  unfold step
  split
  · omega
  · split
    · simp
    · simp
theorem run_len (f : Bool → Bool → Bool) : ∀ (l : List (Int × Bool × Bool)) (s : St), (run f l s).out.length ≤ s.out.length + l.length
  | [], s => by simp [run]
  | x :: r, s => by
    have := run_len f r (step s x.1 (f x.2.1 x.2.2))
    have := step_len s x.1 (f x.2.1 x.2.2)
    simp only [run, List.length_cons]
    omega
structure StOk (P : Int → Bool) (pre post : List Int) (s : St) : Prop where
  norm : Norm s.out
  ends : ∀ x ∈ s.out, x.2 + 1 ∈ pre
  open_ : s.ins = true → s.fr ∈ pre ∧ ∀ x ∈ s.out, x.2 + 2 ≤ s.fr
  times : ∀ u, (∀ v ∈ post, u < v) → (P u = true ↔ has s.out u ∨ (s.ins = true ∧ s.fr ≤ u))
theorem st_step {P : Int → Bool} {pre post : List Int} {t : Int} {s : St} (hi : Inc (pre ++ t :: post)) (hb : Bd P (pre ++ t :: post)) (h : StOk P pre (t :: post) s) : StOk P (pre ++ [t]) post (step s t (P t)) := by
  have lo : ∀ v ∈ pre, v < t := fun v hv => by
    unfold Inc at hi
    rw [List.pairwise_append] at hi
    exact hi.2.2 v hv t List.mem_cons_self
  have up : ∀ v ∈ post, t < v := fun v hv => by
    unfold Inc at hi
    rw [List.pairwise_append, List.pairwise_cons] at hi
    exact hi.2.1.1 v hv
  have con : ∀ u, t ≤ u → (∀ v ∈ post, u < v) → P u = P t := fun u h1 h2 => bd_between hb h1 (fun w w1 w2 hw => by
    rcases List.mem_append.1 hw with q | q
    · have := lo w q; omega
    · rcases List.mem_cons.1 q with q | q
      · omega
      · have := h2 w q; omega)
  have nh : ∀ u, t ≤ u → ¬ has s.out u := fun u h1 ⟨x, hx, h2, h3⟩ => by have := lo _ (h.ends x hx); omega
  have before : ∀ u, u < t → (P u = true ↔ has s.out u ∨ (s.ins = true ∧ s.fr ≤ u)) := fun u hu => h.times u (fun v hv => by
    rcases List.mem_cons.1 hv with q | q
    · omega
    · have := up v q; omega)
  unfold step
  by_cases c : P t = s.ins
  · rw [if_pos c]
    refine ⟨h.norm, fun x hx => List.mem_append_left _ (h.ends x hx), fun q => ⟨List.mem_append_left _ (h.open_ q).1, (h.open_ q).2⟩, fun u hu => ?_⟩
    by_cases lt : u < t
    · exact before u lt
    · rw [con u (by omega) hu, c]
      constructor
      · intro q; exact .inr ⟨q, by have := lo _ (h.open_ q).1; omega⟩
      · rintro (q | q)
        · exact absurd q (nh u (by omega))
        · exact q.1
  · rw [if_neg c]
    by_cases i : s.ins = true
    · rw [if_pos i]
      obtain ⟨o1, o2⟩ := h.open_ i
      have o3 := lo _ o1
      have pf : P t = false := by rw [i] at c; simpa using c
      refine ⟨norm_snoc h.norm (by simp only; omega) (fun y hy => o2 y hy), fun x hx => ?_, (fun q => by simp at q), fun u hu => ?_⟩
      · rcases List.mem_append.1 hx with q | q
        · exact List.mem_append_left _ (h.ends x q)
        · simp only [List.mem_singleton] at q
          subst q
          exact List.mem_append_right _ (by simp)
      · simp only [has_append, has_one, Bool.false_eq_true, false_and, or_false]
        by_cases lt : u < t
        · rw [before u lt]
          constructor
          · rintro (q | q)
            · exact .inl q
            · exact .inr ⟨q.2, by omega⟩
          · rintro (q | q)
            · exact .inl q
            · exact .inr ⟨i, q.1⟩
        · rw [con u (by omega) hu, pf]
          constructor
          · intro q; simp at q
          · rintro (q | q)
            · exact absurd q (nh u (by omega))
            · omega
    · rw [if_neg i]
      have pt : P t = true := by
        have : s.ins = false := by simpa using i
        rw [this] at c
        simpa using c
      refine ⟨h.norm, fun x hx => List.mem_append_left _ (h.ends x hx), fun _ => ⟨List.mem_append_right _ (by simp), fun x hx => by have := lo _ (h.ends x hx); simp only; omega⟩, fun u hu => ?_⟩
      simp only [true_and]
      by_cases lt : u < t
      · rw [before u lt]
        constructor
        · rintro (q | q)
          · exact .inl q
          · exact absurd q.1 i
        · rintro (q | q)
          · exact .inl q
          · omega
      · rw [con u (by omega) hu, pt]
        exact ⟨fun _ => .inr (by omega), fun _ => rfl⟩
theorem st_run {P : Int → Bool} {f : Bool → Bool → Bool} {g : Int → Int × Bool × Bool} (hg : ∀ t, (g t).1 = t ∧ f (g t).2.1 (g t).2.2 = P t) : ∀ {pre post : List Int} {s : St}, Inc (pre ++ post) → Bd P (pre ++ post) → StOk P pre post s → StOk P (pre ++ post) [] (run f (post.map g) s)
  | pre, [], s, _, _, h => by rw [List.append_nil]; exact h
  | pre, t :: post, s, hi, hb, h => by
    have k := st_step hi hb h
    have e : pre ++ t :: post = pre ++ [t] ++ post := by simp
    rw [e] at hi hb ⊢
    simp only [List.map_cons, run, (hg t).1, (hg t).2]
    exact st_run hg hi hb k
/-- which times belong to a result, by the lists that have them -/
def bel (k : Int) (p q : Bool) : Bool := if k = 1 then p || q else if k = 2 then p && q else p && !q
theorem bel_want (a b : List (Int × Int)) (k t : Int) : bel k (decide (has a t)) (decide (has b t)) = want a b k t := rfl
theorem run_is {a b : List (Int × Int)} (k : Int) (ha : OkS a) (hb : OkS b) : IsRes a b k (run (bel k) (bor a b) ⟨[], false, 0⟩).out := by
  have bi : Inc (bords (a ++ b) []) := bords_inc _ List.Pairwise.nil
  have bb := want_bd a b k
  have r := st_run (P := want a b k) (f := bel k) (g := borT a b) (fun t => ⟨rfl, bel_want a b k t⟩) (pre := []) (post := bords (a ++ b) []) (s := ⟨[], false, 0⟩) bi bb ⟨Norm.nil, by simp, by simp, fun u hu => by
    have : want a b k u = false := by
      have e : want a b k u = want a b k (min u 0 - 1) := bd_between bb (by omega) (fun w h1 h2 hw => by have := hu w hw; omega)
      rw [e]
      apply Classical.byContradiction
      intro q
      have := (want_ok (k := k) (t := min u 0 - 1) ha hb (by simpa using q)).1
      omega
    rw [this]
    simp [has_nil]⟩
  have e : run (bel k) (bor a b) ⟨[], false, 0⟩ = run (bel k) ((bords (a ++ b) []).map (borT a b)) ⟨[], false, 0⟩ := rfl
  rw [e]
  generalize run (bel k) ((bords (a ++ b) []).map (borT a b)) ⟨[], false, 0⟩ = s at r ⊢
  have cl : ¬ s.ins = true := fun q => by
    have h1 := (r.times (max s.fr 253402300800) (by simp)).2 (.inr ⟨q, by omega⟩)
    have := (want_ok (k := k) ha hb h1).2
    omega
  refine ⟨r.norm, fun t => ?_⟩
  rw [r.times t (by simp)]
  constructor
  · exact fun q => .inl q
  · rintro (q | q)
    · exact q
    · exact absurd q.1 cl

/-- the first span that has a time, or -1 -/
def find (l : List (Int × Int)) (t : Int) : Int := match l.findIdx? (fun s => decide (s.1 ≤ t) && decide (t ≤ s.2)) with
  | some i => i
  | none => -1
theorem find_none {l : List (Int × Int)} {t : Int} : find l t < 0 ↔ ¬ has l t := by
  unfold find
  split
  · rename_i i h
    rw [List.findIdx?_eq_some_iff_getElem] at h
    obtain ⟨h1, h2, _⟩ := h
    simp only [Bool.and_eq_true, decide_eq_true_eq] at h2
    constructor
    · intro q; omega
    · intro q; exact absurd ⟨l[i], List.getElem_mem h1, h2.1, h2.2⟩ q
  · rename_i h
    rw [List.findIdx?_eq_none_iff] at h
    constructor
    · rintro _ ⟨x, hx, h1, h2⟩
      have := h x hx
      simp [h1, h2] at this
    · intro _; omega
theorem find_some {l : List (Int × Int)} {t : Int} (h : has l t) : ∃ i : Nat, find l t = i ∧ i < l.length ∧ (l.getD i (0, 0)).1 ≤ t ∧ t ≤ (l.getD i (0, 0)).2 := by
  unfold find
  split
  · rename_i i h
    rw [List.findIdx?_eq_some_iff_getElem] at h
    obtain ⟨h1, h2, _⟩ := h
    simp only [Bool.and_eq_true, decide_eq_true_eq] at h2
    exact ⟨i, rfl, h1, by simpa [h1] using h2⟩
  · rename_i q
    rw [List.findIdx?_eq_none_iff] at q
    obtain ⟨x, hx, h1, h2⟩ := h
    have := q x hx
    simp [h1, h2] at this
end Go.Proofs.YtljackjcgfaanaaGreatDoor.Bk
