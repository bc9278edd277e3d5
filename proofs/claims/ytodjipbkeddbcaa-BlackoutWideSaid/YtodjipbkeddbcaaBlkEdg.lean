/- Plain facts on the edges of two lists of spans: sorted edges, the borders that they make, the result built up border by border. No program stands here. -/
import Derived.Test.YtodjipbkeddbcaaBlkTwo
namespace Go.Proofs.Ytodjipbkeddbcaa.Bk

/-- so many spans of the first list, and of the second, begin (or have ended) at a time -/
def edgesA (l : List (Int × Int)) : List (Int × Int × Int) := l.flatMap fun s => [(s.1, 1, 0), (s.2 + 1, -1, 0)]
def edgesB (l : List (Int × Int)) : List (Int × Int × Int) := l.flatMap fun s => [(s.1, 0, 1), (s.2 + 1, 0, -1)]
def edgesL (a b : List (Int × Int)) : List (Int × Int × Int) := edgesA a ++ edgesB b
theorem edgesA_snoc (l : List (Int × Int)) (s : Int × Int) : edgesA (l ++ [s]) = edgesA l ++ [(s.1, 1, 0), (s.2 + 1, -1, 0)] := by simp [edgesA]
theorem edgesB_snoc (l : List (Int × Int)) (s : Int × Int) : edgesB (l ++ [s]) = edgesB l ++ [(s.1, 0, 1), (s.2 + 1, 0, -1)] := by simp [edgesB]
theorem edgesA_len (l : List (Int × Int)) : (edgesA l).length = 2 * l.length := by
  induction l with
  | nil => rfl
  | cons s r ih => simp only [edgesA, List.flatMap_cons, List.length_append, List.length_cons, List.length_nil] at ih ⊢; omega
theorem edgesB_len (l : List (Int × Int)) : (edgesB l).length = 2 * l.length := by
  induction l with
  | nil => rfl
  | cons s r ih => simp only [edgesB, List.flatMap_cons, List.length_append, List.length_cons, List.length_nil] at ih ⊢; omega
theorem edgesL_len (a b : List (Int × Int)) : (edgesL a b).length = 2 * a.length + 2 * b.length := by
  unfold edgesL
  rw [List.length_append, edgesA_len, edgesB_len]

/-- added up -/
def sm (f : Int × Int × Int → Int) : List (Int × Int × Int) → Int
  | [] => 0
  | e :: r => f e + sm f r
theorem sm_append (f : Int × Int × Int → Int) (l m : List (Int × Int × Int)) : sm f (l ++ m) = sm f l + sm f m := by
  induction l with
  | nil => simp [sm]
  | cons e r ih => simp only [List.cons_append, sm, ih]; omega
theorem sm_perm {f : Int × Int × Int → Int} {l m : List (Int × Int × Int)} (h : l.Perm m) : sm f l = sm f m := by
  induction h with
  | nil => rfl
  | cons x _ ih => simp only [sm, ih]
  | swap x y l => simp only [sm]; omega
  | trans _ _ h1 h2 => exact h1.trans h2
theorem sm_bound {f : Int × Int × Int → Int} : ∀ {l : List (Int × Int × Int)}, (∀ e ∈ l, -1 ≤ f e ∧ f e ≤ 1) → -(l.length : Int) ≤ sm f l ∧ sm f l ≤ l.length
  | [], _ => by simp [sm]
  | e :: r, h => by
    have a := h e List.mem_cons_self
    have b := sm_bound (l := r) (fun x hx => h x (List.mem_cons_of_mem _ hx))
    simp only [sm, List.length_cons]
    omega
theorem edges_small {a b : List (Int × Int)} {e : Int × Int × Int} (h : e ∈ edgesL a b) : (-1 ≤ e.2.1 ∧ e.2.1 ≤ 1) ∧ (-1 ≤ e.2.2 ∧ e.2.2 ≤ 1) := by
  unfold edgesL edgesA edgesB at h
  simp only [List.mem_append, List.mem_flatMap, List.mem_cons, List.not_mem_nil, or_false] at h
  rcases h with ⟨s, _, h | h⟩ | ⟨s, _, h | h⟩ <;> subst h <;> simp
theorem edges_mem {a b : List (Int × Int)} {u : Int} : (∃ e ∈ edgesL a b, e.1 = u) ↔ ∃ x ∈ a ++ b, u = x.1 ∨ u = x.2 + 1 := by
  unfold edgesL edgesA edgesB
  simp only [List.mem_append, List.mem_flatMap, List.mem_cons, List.not_mem_nil, or_false]
  constructor
  · rintro ⟨e, ⟨s, hs, h | h⟩ | ⟨s, hs, h | h⟩, rfl⟩ <;> subst h
    · exact ⟨s, .inl hs, .inl rfl⟩
    · exact ⟨s, .inl hs, .inr rfl⟩
    · exact ⟨s, .inr hs, .inl rfl⟩
    · exact ⟨s, .inr hs, .inr rfl⟩
  · rintro ⟨s, hs | hs, h | h⟩
    · exact ⟨_, .inl ⟨s, hs, .inl rfl⟩, h.symm⟩
    · exact ⟨_, .inl ⟨s, hs, .inr rfl⟩, h.symm⟩
    · exact ⟨_, .inr ⟨s, hs, .inl rfl⟩, h.symm⟩
    · exact ⟨_, .inr ⟨s, hs, .inr rfl⟩, h.symm⟩
/-- how many spans of a list have a time -/
def cntH (t : Int) : List (Int × Int) → Int
  | [] => 0
  | x :: r => (if x.1 ≤ t ∧ t ≤ x.2 then 1 else 0) + cntH t r
theorem cntH_nonneg (t : Int) : ∀ l, 0 ≤ cntH t l
  | [] => by simp [cntH]
  | x :: r => by have := cntH_nonneg t r; unfold cntH; split <;> omega
theorem cntH_pos (t : Int) : ∀ l, 0 < cntH t l ↔ has l t
  | [] => by simp [cntH, has_nil]
  | x :: r => by
    have n := cntH_nonneg t r
    have ih := cntH_pos t r
    unfold cntH
    rw [has_cons, ← ih]
    split
    · rename_i h; exact ⟨fun _ => .inl h, fun _ => by omega⟩
    · rename_i h
      constructor
      · intro q; exact .inr (by omega)
      · rintro (q | q)
        · exact absurd q h
        · omega
theorem sm_A (t : Int) : ∀ {l : List (Int × Int)}, (∀ x ∈ l, x.1 ≤ x.2) → sm (·.2.1) ((edgesA l).filter fun e => decide (e.1 ≤ t)) = cntH t l ∧ sm (·.2.2) ((edgesA l).filter fun e => decide (e.1 ≤ t)) = 0
  | [], _ => ⟨rfl, rfl⟩
  | x :: r, h => by
    have a := h x List.mem_cons_self
    obtain ⟨i1, i2⟩ := sm_A t (l := r) (fun y hy => h y (List.mem_cons_of_mem _ hy))
    simp only [edgesA, List.flatMap_cons, List.filter_append, sm_append, cntH] at i1 i2 ⊢
    rw [i1, i2]
    by_cases h1 : x.1 ≤ t <;> by_cases h2 : x.2 + 1 ≤ t <;> by_cases h3 : t ≤ x.2 <;> simp [h1, h2, h3, sm] <;> omega
theorem sm_B (t : Int) : ∀ {l : List (Int × Int)}, (∀ x ∈ l, x.1 ≤ x.2) → sm (·.2.2) ((edgesB l).filter fun e => decide (e.1 ≤ t)) = cntH t l ∧ sm (·.2.1) ((edgesB l).filter fun e => decide (e.1 ≤ t)) = 0
  | [], _ => ⟨rfl, rfl⟩
  | x :: r, h => by
    have a := h x List.mem_cons_self
    obtain ⟨i1, i2⟩ := sm_B t (l := r) (fun y hy => h y (List.mem_cons_of_mem _ hy))
    simp only [edgesB, List.flatMap_cons, List.filter_append, sm_append, cntH] at i1 i2 ⊢
    rw [i1, i2]
    by_cases h1 : x.1 ≤ t <;> by_cases h2 : x.2 + 1 ≤ t <;> by_cases h3 : t ≤ x.2 <;> simp [h1, h2, h3, sm] <;> omega
theorem filter_split {p q : List (Int × Int × Int)} {t : Int} (hp : ∀ x ∈ p, x.1 ≤ t) (hq : ∀ x ∈ q, t < x.1) : (p ++ q).filter (fun e => decide (e.1 ≤ t)) = p := by
  rw [List.filter_append, List.filter_eq_self.2 (fun x hx => by simpa using hp x hx), List.filter_eq_nil_iff.2 (fun x hx => by have := hq x hx; simp; omega), List.append_nil]
/-- sorted edges: so many around a time as spans that have it -/
theorem edge_at {a b : List (Int × Int)} {E p q : List (Int × Int × Int)} {t : Int} (ha : OkS a) (hb : OkS b) (h : E.Perm (edgesL a b)) (hE : E = p ++ q) (hp : ∀ x ∈ p, x.1 ≤ t) (hq : ∀ x ∈ q, t < x.1) :
    (0 < sm (·.2.1) p ↔ has a t) ∧ (0 < sm (·.2.2) p ↔ has b t) := by
  have f := filter_split hp hq
  rw [← hE] at f
  have pm := h.filter (fun e => decide (e.1 ≤ t))
  rw [f] at pm
  obtain ⟨a1, a2⟩ := sm_A t (l := a) (fun x hx => (ha x hx).2.2)
  obtain ⟨b1, b2⟩ := sm_B t (l := b) (fun x hx => (hb x hx).2.2)
  rw [sm_perm pm, sm_perm pm]
  unfold edgesL
  rw [List.filter_append, sm_append, sm_append, a1, a2, b1, b2, ← cntH_pos t a, ← cntH_pos t b]
  constructor <;> (constructor <;> intro k <;> omega)

/-- each time of sorted edges once -/
def grp : List (Int × Int × Int) → List Int
  | [] => []
  | [e] => [e.1]
  | e :: f :: r => if f.1 = e.1 then grp (f :: r) else e.1 :: grp (f :: r)
theorem grp_mem : ∀ (l : List (Int × Int × Int)) (u : Int), u ∈ grp l ↔ ∃ e ∈ l, e.1 = u
  | [], u => by simp [grp]
  | [e], u => by simp [grp, eq_comm]
  | e :: f :: r, u => by
    have ih := grp_mem (f :: r) u
    unfold grp
    split
    · rename_i h
      rw [ih]
      constructor
      · rintro ⟨x, hx, k⟩; exact ⟨x, List.mem_cons_of_mem _ hx, k⟩
      · rintro ⟨x, hx, k⟩
        rcases List.mem_cons.1 hx with q | q
        · subst q; exact ⟨f, List.mem_cons_self, h.trans k⟩
        · exact ⟨x, q, k⟩
    · rw [List.mem_cons, ih]
      constructor
      · rintro (k | ⟨x, hx, k⟩)
        · exact ⟨e, List.mem_cons_self, k.symm⟩
        · exact ⟨x, List.mem_cons_of_mem _ hx, k⟩
      · rintro ⟨x, hx, k⟩
        rcases List.mem_cons.1 hx with q | q
        · subst q; exact .inl k.symm
        · exact .inr ⟨x, q, k⟩
/-- sorted by time -/
def Srt (l : List (Int × Int × Int)) : Prop := l.Pairwise fun x y => x.1 ≤ y.1
theorem grp_inc : ∀ {l : List (Int × Int × Int)}, Srt l → Inc (grp l)
  | [], _ => List.Pairwise.nil
  | [e], _ => by simp [grp, Inc]
  | e :: f :: r, h => by
    unfold Srt at h
    rw [List.pairwise_cons] at h
    have ih := grp_inc (l := f :: r) h.2
    unfold grp
    split
    · exact ih
    · rename_i ne
      unfold Inc at ih ⊢
      rw [List.pairwise_cons]
      refine ⟨fun u hu => ?_, ih⟩
      obtain ⟨x, hx, rfl⟩ := (grp_mem _ u).1 hu
      have a := h.1 f List.mem_cons_self
      rcases List.mem_cons.1 hx with q | q
      · subst q; omega
      · have := (List.pairwise_cons.1 h.2).1 x q; omega
theorem inc_uniq : ∀ {l m : List Int}, Inc l → Inc m → (∀ u, u ∈ l ↔ u ∈ m) → l = m
  | [], [], _, _, _ => rfl
  | [], y :: q, _, _, h => absurd ((h y).2 List.mem_cons_self) (by simp)
  | x :: r, [], _, _, h => absurd ((h x).1 List.mem_cons_self) (by simp)
  | x :: r, y :: q, hl, hm, h => by
    unfold Inc at hl hm
    rw [List.pairwise_cons] at hl hm
    have e : x = y := by
      rcases List.mem_cons.1 ((h x).1 List.mem_cons_self) with k | k
      · exact k
      · rcases List.mem_cons.1 ((h y).2 List.mem_cons_self) with j | j
        · exact j.symm
        · have := hm.1 x k; have := hl.1 y j; omega
    subst e
    congr 1
    refine inc_uniq hl.2 hm.2 fun u => ?_
    constructor
    · intro k
      rcases List.mem_cons.1 ((h u).1 (List.mem_cons_of_mem _ k)) with j | j
      · have := hl.1 u k; omega
      · exact j
    · intro k
      rcases List.mem_cons.1 ((h u).2 (List.mem_cons_of_mem _ k)) with j | j
      · have := hm.1 u k; omega
      · exact j
theorem grp_is {a b : List (Int × Int)} {E : List (Int × Int × Int)} (hs : Srt E) (h : E.Perm (edgesL a b)) : grp E = bords (a ++ b) [] := by
  refine inc_uniq (grp_inc hs) (bords_inc _ List.Pairwise.nil) fun u => ?_
  rw [grp_mem, bords_mem, ← edges_mem]
  constructor
  · rintro ⟨e, he, k⟩; exact .inr ⟨e, h.mem_iff.1 he, k⟩
  · rintro (k | ⟨e, he, k⟩)
    · simp at k
    · exact ⟨e, h.mem_iff.2 he, k⟩
/-- the borders of two lists, with who has the times from there on -/
def borT (a b : List (Int × Int)) (t : Int) : Int × Bool × Bool := (t, decide (has a t), decide (has b t))
def bor (a b : List (Int × Int)) : List (Int × Bool × Bool) := (bords (a ++ b) []).map (borT a b)
theorem bor_len (a b : List (Int × Int)) : (bor a b).length ≤ 2 * (a.length + b.length) := by
  have := bords_len (a ++ b) []
  simp only [List.length_nil, List.length_append] at this
  unfold bor
  rw [List.length_map]
  omega
theorem drop_cons {E : List (Int × Int × Int)} {i : Nat} (h : i < E.length) : E.drop i = E.getD i (0, 0, 0) :: E.drop (i + 1) := by
  rw [List.drop_eq_getElem_cons h]
  simp [h]
theorem take_snoc {E : List (Int × Int × Int)} {i : Nat} (h : i < E.length) : E.take (i + 1) = E.take i ++ [E.getD i (0, 0, 0)] := by
  rw [List.take_add_one]
  simp [h]
/-- one edge further: the next one is at the same time -/
theorem grp_skip {E : List (Int × Int × Int)} {i : Nat} (h : i + 1 < E.length) (e : (E.getD (i + 1) (0, 0, 0)).1 = (E.getD i (0, 0, 0)).1) : grp (E.drop i) = grp (E.drop (i + 1)) := by
  rw [drop_cons (i := i) (by omega), drop_cons h, grp, if_pos e]
/-- one edge further: it was the last one at its time -/
theorem grp_step {E : List (Int × Int × Int)} {i : Nat} (h : i < E.length) (e : i + 1 < E.length → (E.getD (i + 1) (0, 0, 0)).1 ≠ (E.getD i (0, 0, 0)).1) : grp (E.drop i) = (E.getD i (0, 0, 0)).1 :: grp (E.drop (i + 1)) := by
  rw [drop_cons h]
  by_cases k : i + 1 < E.length
  · rw [drop_cons k, grp, if_neg (e k)]
  · rw [List.drop_eq_nil_of_le (by omega)]
    rfl
theorem srt_at {E : List (Int × Int × Int)} (hs : Srt E) {i j : Nat} (hij : i ≤ j) (hj : j < E.length) : (E.getD i (0, 0, 0)).1 ≤ (E.getD j (0, 0, 0)).1 := by
  by_cases e : i = j
  · subst e; exact Int.le_refl _
  · have := List.pairwise_iff_getElem.1 hs i j (by omega) hj (by omega)
    simpa [hj, show i < E.length by omega] using this
theorem step_who {a b : List (Int × Int)} {E : List (Int × Int × Int)} (ha : OkS a) (hb : OkS b) (hs : Srt E) (hE : E.Perm (edgesL a b)) {i : Nat} (h : i < E.length) (e : i + 1 < E.length → (E.getD (i + 1) (0, 0, 0)).1 ≠ (E.getD i (0, 0, 0)).1) :
    (0 < sm (·.2.1) (E.take (i + 1)) ↔ has a (E.getD i (0, 0, 0)).1) ∧ (0 < sm (·.2.2) (E.take (i + 1)) ↔ has b (E.getD i (0, 0, 0)).1) := by
  refine edge_at ha hb hE (List.take_append_drop (i + 1) E).symm (fun x hx => ?_) (fun x hx => ?_)
  · obtain ⟨j, hj, rfl⟩ := List.getElem_of_mem hx
    rw [List.length_take] at hj
    have := srt_at hs (i := j) (j := i) (by omega) h
    rw [List.getElem_take]
    simpa [show j < E.length by omega] using this
  · obtain ⟨j, hj, rfl⟩ := List.getElem_of_mem hx
    rw [List.length_drop] at hj
    have a1 := srt_at hs (i := i) (j := i + 1) (by omega) (by omega)
    have a2 := srt_at hs (i := i + 1) (j := i + 1 + j) (by omega) (by omega)
    have a3 := e (by omega)
    rw [List.getElem_drop]
    have : E.getD (i + 1 + j) (0, 0, 0) = E[i + 1 + j] := by simp [show i + 1 + j < E.length by omega]
    rw [this] at a2
    omega
theorem perm_small {a b : List (Int × Int)} {E : List (Int × Int × Int)} (hE : E.Perm (edgesL a b)) (i : Nat) : (-(E.length : Int) ≤ sm (·.2.1) (E.take i) ∧ sm (·.2.1) (E.take i) ≤ E.length) ∧ (-(E.length : Int) ≤ sm (·.2.2) (E.take i) ∧ sm (·.2.2) (E.take i) ≤ E.length) := by
  have l : (E.take i).length ≤ E.length := by rw [List.length_take]; omega
  have m : ∀ e ∈ E.take i, e ∈ edgesL a b := fun e he => hE.mem_iff.1 (List.mem_of_mem_take he)
  have h1 := sm_bound (f := (·.2.1)) (l := E.take i) (fun e he => (edges_small (m e he)).1)
  have h2 := sm_bound (f := (·.2.2)) (l := E.take i) (fun e he => (edges_small (m e he)).2)
  omega
theorem perm_at {a b : List (Int × Int)} {E : List (Int × Int × Int)} (hE : E.Perm (edgesL a b)) {i : Nat} (h : i < E.length) : (-1 ≤ (E.getD i (0, 0, 0)).2.1 ∧ (E.getD i (0, 0, 0)).2.1 ≤ 1) ∧ (-1 ≤ (E.getD i (0, 0, 0)).2.2 ∧ (E.getD i (0, 0, 0)).2.2 ≤ 1) := by
  have : E.getD i (0, 0, 0) ∈ E := by simp [h]
  exact edges_small (hE.mem_iff.1 this)

/-- the state behind some borders: the spans so far, whether a span is open, where it (or the last gap) began -/
structure St where
  out : List (Int × Int)
  ins : Bool
  fr : Int
def step (s : St) (t : Int) (p : Bool) : St := if p = s.ins then s else if s.ins = true then ⟨s.out ++ [(s.fr, t - 1)], false, t⟩ else ⟨s.out, true, t⟩
def run (f : Bool → Bool → Bool) : List (Int × Bool × Bool) → St → St
  | [], s => s
  | x :: r, s => run f r (step s x.1 (f x.2.1 x.2.2))
theorem run_snoc (f : Bool → Bool → Bool) (l : List (Int × Bool × Bool)) (x : Int × Bool × Bool) (s : St) : run f (l ++ [x]) s = step (run f l s) x.1 (f x.2.1 x.2.2) := by
  induction l generalizing s with
  | nil => rfl
  | cons y r ih => simp only [List.cons_append, run, ih]
theorem step_len (s : St) (t : Int) (p : Bool) : (step s t p).out.length ≤ s.out.length + 1 := by
  unfold step
  split
  · omega
  · split
    · simp
    · simp
theorem run_len (f : Bool → Bool → Bool) : ∀ (l : List (Int × Bool × Bool)) (s : St), (run f l s).out.length ≤ s.out.length + l.length
  | [], s => by simp [run]
  | x :: r, s => by
    have := run_len f r (step s x.1 (f x.2.1 x.2.2))
    have := step_len s x.1 (f x.2.1 x.2.2)
    simp only [run, List.length_cons]
    omega
structure StOk (P : Int → Bool) (pre post : List Int) (s : St) : Prop where
  norm : Norm s.out
  ends : ∀ x ∈ s.out, x.2 + 1 ∈ pre
  open_ : s.ins = true → s.fr ∈ pre ∧ ∀ x ∈ s.out, x.2 + 2 ≤ s.fr
  times : ∀ u, (∀ v ∈ post, u < v) → (P u = true ↔ has s.out u ∨ (s.ins = true ∧ s.fr ≤ u))
theorem st_step {P : Int → Bool} {pre post : List Int} {t : Int} {s : St} (hi : Inc (pre ++ t :: post)) (hb : Bd P (pre ++ t :: post)) (h : StOk P pre (t :: post) s) : StOk P (pre ++ [t]) post (step s t (P t)) := by
  have lo : ∀ v ∈ pre, v < t := fun v hv => by
    unfold Inc at hi
    rw [List.pairwise_append] at hi
    exact hi.2.2 v hv t List.mem_cons_self
  have up : ∀ v ∈ post, t < v := fun v hv => by
    unfold Inc at hi
    rw [List.pairwise_append, List.pairwise_cons] at hi
    exact hi.2.1.1 v hv
  have con : ∀ u, t ≤ u → (∀ v ∈ post, u < v) → P u = P t := fun u h1 h2 => bd_between hb h1 (fun w w1 w2 hw => by
    rcases List.mem_append.1 hw with q | q
    · have := lo w q; omega
    · rcases List.mem_cons.1 q with q | q
      · omega
      · have := h2 w q; omega)
  have nh : ∀ u, t ≤ u → ¬ has s.out u := fun u h1 ⟨x, hx, h2, h3⟩ => by have := lo _ (h.ends x hx); omega
  have before : ∀ u, u < t → (P u = true ↔ has s.out u ∨ (s.ins = true ∧ s.fr ≤ u)) := fun u hu => h.times u (fun v hv => by
    rcases List.mem_cons.1 hv with q | q
    · omega
    · have := up v q; omega)
  unfold step
  by_cases c : P t = s.ins
  · rw [if_pos c]
    refine ⟨h.norm, fun x hx => List.mem_append_left _ (h.ends x hx), fun q => ⟨List.mem_append_left _ (h.open_ q).1, (h.open_ q).2⟩, fun u hu => ?_⟩
    by_cases lt : u < t
    · exact before u lt
    · rw [con u (by omega) hu, c]
      constructor
      · intro q; exact .inr ⟨q, by have := lo _ (h.open_ q).1; omega⟩
      · rintro (q | q)
        · exact absurd q (nh u (by omega))
        · exact q.1
  · rw [if_neg c]
    by_cases i : s.ins = true
    · rw [if_pos i]
      obtain ⟨o1, o2⟩ := h.open_ i
      have o3 := lo _ o1
      have pf : P t = false := by rw [i] at c; simpa using c
      refine ⟨norm_snoc h.norm (by simp only; omega) (fun y hy => o2 y hy), fun x hx => ?_, (fun q => by simp at q), fun u hu => ?_⟩
      · rcases List.mem_append.1 hx with q | q
        · exact List.mem_append_left _ (h.ends x q)
        · simp only [List.mem_singleton] at q
          subst q
          exact List.mem_append_right _ (by simp)
      · simp only [has_append, has_one, Bool.false_eq_true, false_and, or_false]
        by_cases lt : u < t
        · rw [before u lt]
          constructor
          · rintro (q | q)
            · exact .inl q
            · exact .inr ⟨q.2, by omega⟩
          · rintro (q | q)
            · exact .inl q
            · exact .inr ⟨i, q.1⟩
        · rw [con u (by omega) hu, pf]
          constructor
          · intro q; simp at q
          · rintro (q | q)
            · exact absurd q (nh u (by omega))
            · omega
    · rw [if_neg i]
      have pt : P t = true := by
        have : s.ins = false := by simpa using i
        rw [this] at c
        simpa using c
      refine ⟨h.norm, fun x hx => List.mem_append_left _ (h.ends x hx), fun _ => ⟨List.mem_append_right _ (by simp), fun x hx => by have := lo _ (h.ends x hx); simp only; omega⟩, fun u hu => ?_⟩
      simp only [true_and]
      by_cases lt : u < t
      · rw [before u lt]
        constructor
        · rintro (q | q)
          · exact .inl q
          · exact absurd q.1 i
        · rintro (q | q)
          · exact .inl q
          · omega
      · rw [con u (by omega) hu, pt]
        exact ⟨fun _ => .inr (by omega), fun _ => rfl⟩
theorem st_run {P : Int → Bool} {f : Bool → Bool → Bool} {g : Int → Int × Bool × Bool} (hg : ∀ t, (g t).1 = t ∧ f (g t).2.1 (g t).2.2 = P t) : ∀ {pre post : List Int} {s : St}, Inc (pre ++ post) → Bd P (pre ++ post) → StOk P pre post s → StOk P (pre ++ post) [] (run f (post.map g) s)
  | pre, [], s, _, _, h => by rw [List.append_nil]; exact h
  | pre, t :: post, s, hi, hb, h => by
    have k := st_step hi hb h
    have e : pre ++ t :: post = pre ++ [t] ++ post := by simp
    rw [e] at hi hb ⊢
    simp only [List.map_cons, run, (hg t).1, (hg t).2]
    exact st_run hg hi hb k
/-- which times belong to a result, by the lists that have them -/
def bel (k : Int) (p q : Bool) : Bool := if k = 1 then p || q else if k = 2 then p && q else p && !q
theorem bel_want (a b : List (Int × Int)) (k t : Int) : bel k (decide (has a t)) (decide (has b t)) = want a b k t := rfl
theorem run_is {a b : List (Int × Int)} (k : Int) (ha : OkS a) (hb : OkS b) : IsRes a b k (run (bel k) (bor a b) ⟨[], false, 0⟩).out := by
  have bi : Inc (bords (a ++ b) []) := bords_inc _ List.Pairwise.nil
  have bb := want_bd a b k
  have r := st_run (P := want a b k) (f := bel k) (g := borT a b) (fun t => ⟨rfl, bel_want a b k t⟩) (pre := []) (post := bords (a ++ b) []) (s := ⟨[], false, 0⟩) bi bb ⟨Norm.nil, by simp, by simp, fun u hu => by
    have : want a b k u = false := by
      have e : want a b k u = want a b k (min u 0 - 1) := bd_between bb (by omega) (fun w h1 h2 hw => by have := hu w hw; omega)
      rw [e]
      apply Classical.byContradiction
      intro q
      have := (want_ok (k := k) (t := min u 0 - 1) ha hb (by simpa using q)).1
      omega
    rw [this]
    simp [has_nil]⟩
  have e : run (bel k) (bor a b) ⟨[], false, 0⟩ = run (bel k) ((bords (a ++ b) []).map (borT a b)) ⟨[], false, 0⟩ := rfl
  rw [e]
  generalize run (bel k) ((bords (a ++ b) []).map (borT a b)) ⟨[], false, 0⟩ = s at r ⊢
  have cl : ¬ s.ins = true := fun q => by
    have h1 := (r.times (max s.fr 253402300800) (by simp)).2 (.inr ⟨q, by omega⟩)
    have := (want_ok (k := k) ha hb h1).2
    omega
  refine ⟨r.norm, fun t => ?_⟩
  rw [r.times t (by simp)]
  constructor
  · exact fun q => .inl q
  · rintro (q | q)
    · exact q
    · exact absurd q.1 cl

/-- the first span that has a time, or -1 -/
def find (l : List (Int × Int)) (t : Int) : Int := match l.findIdx? (fun s => decide (s.1 ≤ t) && decide (t ≤ s.2)) with
  | some i => i
  | none => -1
theorem find_none {l : List (Int × Int)} {t : Int} : find l t < 0 ↔ ¬ has l t := by
  unfold find
  split
  · rename_i i h
    rw [List.findIdx?_eq_some_iff_getElem] at h
    obtain ⟨h1, h2, _⟩ := h
    simp only [Bool.and_eq_true, decide_eq_true_eq] at h2
    constructor
    · intro q; omega
    · intro q; exact absurd ⟨l[i], List.getElem_mem h1, h2.1, h2.2⟩ q
  · rename_i h
    rw [List.findIdx?_eq_none_iff] at h
    constructor
    · rintro _ ⟨x, hx, h1, h2⟩
      have := h x hx
      simp [h1, h2] at this
    · intro _; omega
theorem find_some {l : List (Int × Int)} {t : Int} (h : has l t) : ∃ i : Nat, find l t = i ∧ i < l.length ∧ (l.getD i (0, 0)).1 ≤ t ∧ t ≤ (l.getD i (0, 0)).2 := by
  unfold find
  split
  · rename_i i h
    rw [List.findIdx?_eq_some_iff_getElem] at h
    obtain ⟨h1, h2, _⟩ := h
    simp only [Bool.and_eq_true, decide_eq_true_eq] at h2
    exact ⟨i, rfl, h1, by simpa [h1] using h2⟩
  · rename_i q
    rw [List.findIdx?_eq_none_iff] at q
    obtain ⟨x, hx, h1, h2⟩ := h
    have := q x hx
    simp [h1, h2] at this
/-- the lengths of the spans of a valid list, added up -/
theorem sumL_bound : ∀ {l : List (Int × Int)}, OkS l → 0 ≤ sumL l ∧ sumL l ≤ l.length * 253402300800
  | [], _ => by simp [sumL]
  | x :: r, h => by
    have a := h x List.mem_cons_self
    have b := sumL_bound (l := r) (fun y hy => h y (List.mem_cons_of_mem _ hy))
    unfold okT at a
    simp only [sumL, List.length_cons]
    omega
theorem sumL_snoc (l : List (Int × Int)) (x : Int × Int) : sumL (l ++ [x]) = sumL l + (x.2 - x.1 + 1) := by rw [sumL_append]; simp [sumL]
end Go.Proofs.Ytodjipbkeddbcaa.Bk
