/- Plain facts on lists of times: errors, gaps, windows, merged lists, the nearest time. No program stands here. -/
namespace Go.Proofs.Ytihbpbdcpnpiaaa.Gp

/-- a valid time -/
def okT (z : Int) : Prop := 0 ≤ z ∧ z ≤ 253402300799
/-- strictly increasing -/
def Inc (l : List Int) : Prop := l.Pairwise (· < ·)
/-- a list of times -/
structure Tl (l : List Int) : Prop where
  len : l.length ≤ 100000
  ok : ∀ z ∈ l, okT z
  inc : Inc l
theorem getD_mem {l : List Int} {i : Nat} (h : i < l.length) : l.getD i 0 ∈ l := by simp [h]
theorem mem_getD {l : List Int} {z : Int} (h : z ∈ l) : ∃ i, i < l.length ∧ l.getD i 0 = z := by
  obtain ⟨i, hi, e⟩ := List.getElem_of_mem h
  exact ⟨i, hi, by simp [hi, e]⟩
theorem Inc.lt {l : List Int} (h : Inc l) {i j : Nat} (hij : i < j) (hj : j < l.length) : l.getD i 0 < l.getD j 0 := by
  have := (List.pairwise_iff_getElem.1 h) i j (by omega) hj hij
  simpa [hj, show i < l.length by omega] using this
theorem Inc.le {l : List Int} (h : Inc l) {i j : Nat} (hij : i ≤ j) (hj : j < l.length) : l.getD i 0 ≤ l.getD j 0 := by
  by_cases e : i = j
  · subst e; exact Int.le_refl _
  · exact Int.le_of_lt (h.lt (by omega) hj)
theorem inc_of {l : List Int} (h : ∀ i, i + 1 < l.length → l.getD i 0 < l.getD (i + 1) 0) : Inc l := by
  have H : ∀ (d i : Nat), i + d + 1 < l.length → l.getD i 0 < l.getD (i + d + 1) 0 := by
    intro d
    induction d with
    | zero => intro i hi; exact h i hi
    | succ d ih => intro i hi; exact Int.lt_trans (ih i (by omega)) (h (i + d + 1) hi)
  refine List.pairwise_iff_getElem.2 fun i j hi hj hij => ?_
  have := H (j - i - 1) i (by omega)
  rw [show i + (j - i - 1) + 1 = j by omega] at this
  simpa [hi, hj] using this
/-- increasing lists with the same elements are one -/
theorem Inc.uniq : ∀ {a b : List Int}, Inc a → Inc b → (∀ t, t ∈ a ↔ t ∈ b) → a = b
  | [], [], _, _, _ => rfl
  | [], y :: b, _, _, h => by have := (h y).2 (by simp); simp at this
  | x :: a, [], _, _, h => by have := (h x).1 (by simp); simp at this
  | x :: a, y :: b, ha, hb, h => by
    have ha' := List.pairwise_cons.1 ha
    have hb' := List.pairwise_cons.1 hb
    have e : x = y := by
      have h1 := (h x).1 (by simp)
      have h2 := (h y).2 (by simp)
      rw [List.mem_cons] at h1 h2
      rcases h1 with h1 | h1
      · exact h1
      · rcases h2 with h2 | h2
        · exact h2.symm
        · have := hb'.1 x h1
          have := ha'.1 y h2
          omega
    subst e
    rw [Inc.uniq ha'.2 hb'.2 fun t => ?_]
    constructor
    · intro m
      have := (h t).1 (by simp [m])
      rw [List.mem_cons] at this
      rcases this with q | q
      · have := ha'.1 t m; omega
      · exact q
    · intro m
      have := (h t).2 (by simp [m])
      rw [List.mem_cons] at this
      rcases this with q | q
      · have := hb'.1 t m; omega
      · exact q

open Classical in
/-- the error of lists -/
noncomputable def errL (ls : List (List Int)) : Int :=
  if ∃ l ∈ ls, 100000 < l.length then 12 else if ∃ l ∈ ls, ∃ z ∈ l, ¬ okT z then 14 else if ∃ l ∈ ls, ¬ Inc l then 8 else 0
theorem errL_many {ls : List (List Int)} (h : ∃ l ∈ ls, 100000 < l.length) : errL ls = 12 := by unfold errL; rw [if_pos h]
theorem errL_time {ls : List (List Int)} (h0 : ¬ ∃ l ∈ ls, 100000 < l.length) (h : ∃ l ∈ ls, ∃ z ∈ l, ¬ okT z) : errL ls = 14 := by unfold errL; rw [if_neg h0, if_pos h]
theorem errL_order {ls : List (List Int)} (h0 : ¬ ∃ l ∈ ls, 100000 < l.length) (h1 : ¬ ∃ l ∈ ls, ∃ z ∈ l, ¬ okT z) (h : ∃ l ∈ ls, ¬ Inc l) : errL ls = 8 := by unfold errL; rw [if_neg h0, if_neg h1, if_pos h]
theorem errL_none {ls : List (List Int)} (h0 : ¬ ∃ l ∈ ls, 100000 < l.length) (h1 : ¬ ∃ l ∈ ls, ∃ z ∈ l, ¬ okT z) (h : ¬ ∃ l ∈ ls, ¬ Inc l) : errL ls = 0 := by unfold errL; rw [if_neg h0, if_neg h1, if_neg h]
theorem errL_ok {ls : List (List Int)} (h : ∀ l ∈ ls, Tl l) : errL ls = 0 :=
  errL_none (fun ⟨l, m, q⟩ => by have := (h l m).len; omega) (fun ⟨l, m, z, hz, q⟩ => q ((h l m).ok z hz)) (fun ⟨l, m, q⟩ => q (h l m).inc)
theorem errL_tl {ls : List (List Int)} (h : errL ls = 0) : ∀ l ∈ ls, Tl l := by
  unfold errL at h
  split at h
  · simp at h
  · split at h
    · simp at h
    · split at h
      · simp at h
      · rename_i h0 h1 h2
        intro l m
        refine ⟨?_, fun z hz => ?_, ?_⟩
        · apply Classical.byContradiction; intro q; exact h0 ⟨l, m, by omega⟩
        · apply Classical.byContradiction; intro q; exact h1 ⟨l, m, z, hz, q⟩
        · apply Classical.byContradiction; intro q; exact h2 ⟨l, m, q⟩
theorem tl_nil : Tl [] := ⟨by simp, by simp, List.Pairwise.nil⟩
theorem inc_one (t : Int) : Inc [t] := by unfold Inc; simp
theorem errL_cases (ls : List (List Int)) : errL ls = 0 ∨ errL ls = 8 ∨ errL ls = 12 ∨ errL ls = 14 := by
  unfold errL; split
  · exact .inr (.inr (.inl rfl))
  · split
    · exact .inr (.inr (.inr rfl))
    · split
      · exact .inr (.inl rfl)
      · exact .inl rfl

/-- the first k gaps -/
def gapsTo (l : List Int) (k : Nat) : List Int := (List.range k).map fun i => l.getD (i + 1) 0 - l.getD i 0
/-- the gaps -/
def gapsL (l : List Int) : List Int := gapsTo l (l.length - 1)
theorem gapsTo_succ (l : List Int) (k : Nat) : gapsTo l (k + 1) = gapsTo l k ++ [l.getD (k + 1) 0 - l.getD k 0] := by
  unfold gapsTo; rw [List.range_succ, List.map_append]; rfl
theorem gapsTo_len (l : List Int) (k : Nat) : (gapsTo l k).length = k := by simp [gapsTo]
theorem gapsL_len (l : List Int) : (gapsL l).length = l.length - 1 := gapsTo_len l _
theorem gapsTo_at (l : List Int) {k i : Nat} (h : i < k) : (gapsTo l k).getD i 0 = l.getD (i + 1) 0 - l.getD i 0 := by simp [gapsTo, h]

/-- the smallest, the greatest of the first k numbers -/
def minTo (l : List Int) : Nat → Int
  | 0 => l.getD 0 0
  | k + 1 => min (minTo l k) (l.getD k 0)
def maxTo (l : List Int) : Nat → Int
  | 0 => l.getD 0 0
  | k + 1 => max (maxTo l k) (l.getD k 0)
theorem minTo_one (l : List Int) : minTo l 1 = l.getD 0 0 := by simp [minTo]
theorem maxTo_one (l : List Int) : maxTo l 1 = l.getD 0 0 := by simp [maxTo]
theorem minTo_le (l : List Int) : ∀ {k i : Nat}, i < k → minTo l k ≤ l.getD i 0
  | k + 1, i, h => by
    show min (minTo l k) (l.getD k 0) ≤ l.getD i 0
    by_cases e : i = k
    · subst e; omega
    · have := minTo_le l (k := k) (i := i) (by omega); omega
theorem maxTo_ge (l : List Int) : ∀ {k i : Nat}, i < k → l.getD i 0 ≤ maxTo l k
  | k + 1, i, h => by
    show l.getD i 0 ≤ max (maxTo l k) (l.getD k 0)
    by_cases e : i = k
    · subst e; omega
    · have := maxTo_ge l (k := k) (i := i) (by omega); omega
theorem minTo_in (l : List Int) : ∀ (k : Nat), ∃ i, i ≤ k - 1 ∧ minTo l k = l.getD i 0
  | 0 => ⟨0, by omega, rfl⟩
  | k + 1 => by
    obtain ⟨i, hi, e⟩ := minTo_in l k
    show ∃ j, _ ∧ min (minTo l k) (l.getD k 0) = _
    by_cases c : minTo l k ≤ l.getD k 0
    · exact ⟨i, by omega, by rw [Int.min_eq_left c, e]⟩
    · exact ⟨k, by omega, by rw [Int.min_eq_right (by omega)]⟩
theorem maxTo_in (l : List Int) : ∀ (k : Nat), ∃ i, i ≤ k - 1 ∧ maxTo l k = l.getD i 0
  | 0 => ⟨0, by omega, rfl⟩
  | k + 1 => by
    obtain ⟨i, hi, e⟩ := maxTo_in l k
    show ∃ j, _ ∧ max (maxTo l k) (l.getD k 0) = _
    by_cases c : l.getD k 0 ≤ maxTo l k
    · exact ⟨i, by omega, by rw [Int.max_eq_left c, e]⟩
    · exact ⟨k, by omega, by rw [Int.max_eq_right (by omega)]⟩
/-- the smallest is the greatest: all are the first one -/
theorem same_iff (l : List Int) : minTo l l.length = maxTo l l.length ↔ ∀ i, i < l.length → l.getD i 0 = l.getD 0 0 := by
  constructor
  · intro h i hi
    have a1 := minTo_le l hi
    have a2 := maxTo_ge l hi
    have b1 := minTo_le l (k := l.length) (i := 0) (by omega)
    have b2 := maxTo_ge l (k := l.length) (i := 0) (by omega)
    omega
  · intro h
    by_cases z : l.length = 0
    · rw [z]; rfl
    · obtain ⟨i, hi, e⟩ := minTo_in l l.length
      obtain ⟨j, hj, f⟩ := maxTo_in l l.length
      rw [e, f, h i (by omega), h j (by omega)]

/-- how many of an increasing list are below b -/
def cl (l : List Int) (b : Int) : Nat := (l.takeWhile (fun z => decide (z < b))).length
theorem cl_le (l : List Int) (b : Int) : cl l b ≤ l.length := (List.takeWhile_sublist _).length_le
theorem cl_iff : ∀ {l : List Int} (_ : Inc l) (b : Int) {j : Nat} (_ : j < l.length), j < cl l b ↔ l.getD j 0 < b
  | x :: l, h, b, j, hj => by
    have h' := List.pairwise_cons.1 h
    unfold cl
    by_cases c : x < b
    · rw [List.takeWhile_cons_of_pos (by simpa using c)]
      cases j with
      | zero => simp [c]
      | succ j =>
        have := cl_iff (l := l) h'.2 b (j := j) (by simpa using hj)
        unfold cl at this
        simpa using this
    · rw [List.takeWhile_cons_of_neg (by simpa using c)]
      cases j with
      | zero => simp; omega
      | succ j =>
        have hj' : j < l.length := by simpa using hj
        have := h'.1 (l.getD j 0) (getD_mem hj')
        have e : (x :: l).getD (j + 1) 0 = l.getD j 0 := by simp
        rw [e]
        constructor
        · intro q; simp at q
        · intro q; omega
theorem cl_mono {l : List Int} (h : Inc l) {a b : Int} (hab : a ≤ b) : cl l a ≤ cl l b := by
  apply Classical.byContradiction
  intro q
  have h1 := cl_le l a
  have : cl l b < l.length := by omega
  have h2 := (cl_iff h a this).1 (by omega)
  have h3 := (cl_iff h b this).2 (by omega)
  omega
theorem cl_is {l : List Int} (h : Inc l) (b : Int) {e : Nat} (he : e ≤ cl l b) (hx : e = l.length ∨ (e < l.length ∧ b ≤ l.getD e 0)) : e = cl l b := by
  have := cl_le l b
  rcases hx with hx | ⟨h1, h2⟩
  · omega
  · apply Classical.byContradiction
    intro q
    have := (cl_iff h b h1).1 (by omega)
    omega
theorem cl_mid {l : List Int} (h : Inc l) (b : Int) {e : Nat} (h1 : ∀ j, j < e → l.getD j 0 < b) (h2 : ∀ j, e ≤ j → j < l.length → b ≤ l.getD j 0) (he : e ≤ l.length) : cl l b = e := by
  apply Eq.symm
  apply cl_is h
  · apply Classical.byContradiction
    intro q
    have := h1 (cl l b) (by omega)
    have := (cl_iff h b (j := cl l b) (by omega)).2 this
    omega
  · by_cases c : e = l.length
    · exact .inl c
    · exact .inr ⟨by omega, h2 e (Nat.le_refl _) (by omega)⟩
theorem cl_self {l : List Int} (h : Inc l) {i : Nat} (hi : i < l.length) : cl l (l.getD i 0) = i := by
  apply Nat.le_antisymm
  · apply Classical.byContradiction
    intro q
    have := (cl_iff h (l.getD i 0) hi).1 (by omega)
    omega
  · apply Classical.byContradiction
    intro q
    have h1 : cl l (l.getD i 0) < l.length := by omega
    have := h.lt (i := cl l (l.getD i 0)) (j := i) (by omega) hi
    have := (cl_iff h (l.getD i 0) h1).2 this
    omega
theorem cl_next {l : List Int} (h : Inc l) {i : Nat} (hi : i < l.length) {w : Int} (hw : 1 ≤ w) : i + 1 ≤ cl l (l.getD i 0 + w) := by
  have := (cl_iff h (l.getD i 0 + w) hi).2 (by omega)
  omega

/-- the most times in a window that begins at one of the first k times, and where it begins -/
def best (l : List Int) (w : Int) : Nat → Nat × Int
  | 0 => (0, 0)
  | k + 1 => if (best l w k).1 < cl l (l.getD k 0 + w) - k then (cl l (l.getD k 0 + w) - k, l.getD k 0) else best l w k
theorem best_is {l : List Int} (h : Inc l) {w : Int} (hw : 1 ≤ w) : ∀ {k : Nat}, 0 < k → k ≤ l.length →
    ∃ i, i < k ∧ best l w k = (cl l (l.getD i 0 + w) - i, l.getD i 0) ∧ (∀ j, j < k → cl l (l.getD j 0 + w) - j ≤ (best l w k).1) ∧ ∀ j, j < i → cl l (l.getD j 0 + w) - j < (best l w k).1
  | k + 1, _, hk => by
    have un : best l w (k + 1) = if (best l w k).1 < cl l (l.getD k 0 + w) - k then (cl l (l.getD k 0 + w) - k, l.getD k 0) else best l w k := rfl
    rw [un]
    have nx := cl_next h (i := k) (by omega) hw
    by_cases c : (best l w k).1 < cl l (l.getD k 0 + w) - k
    · simp only [if_pos c]
      have up : ∀ j, j < k → cl l (l.getD j 0 + w) - j ≤ (best l w k).1 := by
        intro j hj
        obtain ⟨i, _, _, h3, _⟩ := best_is h hw (k := k) (by omega) (by omega)
        exact h3 j hj
      refine ⟨k, by omega, rfl, fun j hj => ?_, fun j hj => ?_⟩
      · by_cases e : j = k
        · subst e; exact Nat.le_refl _
        · have := up j (by omega); omega
      · have := up j hj; omega
    · simp only [if_neg c]
      have k0 : 0 < k := by
        apply Classical.byContradiction
        intro q
        have e : k = 0 := by omega
        rw [e] at c nx
        exact c (by show 0 < _; omega)
      obtain ⟨i, h1, h2, h3, h4⟩ := best_is h hw k0 (by omega)
      refine ⟨i, by omega, h2, fun j hj => ?_, h4⟩
      by_cases e : j = k
      · subst e; omega
      · exact h3 j (by omega)

/-- the windows taken one after the other, and the end of the last one, behind the first k times -/
def cov (l : List Int) (w : Int) : Nat → Nat × Int
  | 0 => (0, 0)
  | k + 1 => if (cov l w k).2 ≤ l.getD k 0 then ((cov l w k).1 + 1, l.getD k 0 + w) else cov l w k
theorem cov_zero (l : List Int) (w : Int) : ∀ (k : Nat), (cov l w k).1 = 0 → (cov l w k).2 = 0
  | 0, _ => rfl
  | k + 1, h => by
    unfold cov at h ⊢
    split at h
    · simp at h
    · rename_i c; rw [if_neg c]; exact cov_zero l w k h
theorem cov_le (l : List Int) (w : Int) : ∀ (k : Nat), (cov l w k).1 ≤ k
  | 0 => Nat.le_refl _
  | k + 1 => by
    have := cov_le l w k
    unfold cov
    split
    · dsimp only; omega
    · omega
theorem cov_end (l : List Int) (w : Int) (hw : 1 ≤ w) (h : ∀ z ∈ l, okT z) : ∀ (k : Nat), k ≤ l.length → 0 ≤ (cov l w k).2 ∧ (cov l w k).2 ≤ 253402300799 + w
  | 0, _ => by simp [cov]; omega
  | k + 1, hk => by
    have a := cov_end l w hw h k (by omega)
    have b := h _ (getD_mem (l := l) (i := k) (by omega))
    unfold okT at b
    unfold cov
    split
    · dsimp only; omega
    · exact a
theorem best_in (l : List Int) (w : Int) (h : ∀ z ∈ l, okT z) : ∀ (k : Nat), k ≤ l.length → (best l w k).1 ≤ l.length ∧ okT (best l w k).2
  | 0, _ => by simp [best, okT]
  | k + 1, hk => by
    have a := best_in l w h k (by omega)
    unfold best
    split
    · have := cl_le l (l.getD k 0 + w)
      exact ⟨by dsimp only; omega, h _ (getD_mem (by omega))⟩
    · exact a

/-- the index of the nearest time among the first n -/
structure Near (l : List Int) (t : Int) (n i : Nat) : Prop where
  lt : i < n
  no : ∀ j, j < n → max (l.getD i 0 - t) (t - l.getD i 0) ≤ max (l.getD j 0 - t) (t - l.getD j 0)
  first : ∀ j, j < i → max (l.getD i 0 - t) (t - l.getD i 0) < max (l.getD j 0 - t) (t - l.getD j 0)
theorem Near.uniq {l : List Int} {t : Int} {n i j : Nat} (h : Near l t n i) (k : Near l t n j) : i = j := by
  have a1 := h.no j k.lt
  have a2 := k.no i h.lt
  by_cases c : i < j
  · have := k.first i c; omega
  · by_cases d : j < i
    · have := h.first j d; omega
    · omega
theorem Near.one (l : List Int) (t : Int) : Near l t 1 0 := ⟨by omega, fun j hj => by
  have e : j = 0 := by omega
  rw [e]
  exact Int.le_refl _, fun j hj => by omega⟩
theorem Near.move {l : List Int} {t : Int} {n i : Nat} (h : Near l t n i) (hd : max (l.getD n 0 - t) (t - l.getD n 0) < max (l.getD i 0 - t) (t - l.getD i 0)) : Near l t (n + 1) n :=
  ⟨by omega, fun j hj => by
    by_cases e : j = n
    · subst e; exact Int.le_refl _
    · have := h.no j (by omega); omega, fun j hj => by have := h.no j hj; omega⟩
theorem Near.stay {l : List Int} {t : Int} {n i : Nat} (h : Near l t n i) (hd : ¬ max (l.getD n 0 - t) (t - l.getD n 0) < max (l.getD i 0 - t) (t - l.getD i 0)) : Near l t (n + 1) i :=
  ⟨by have := h.lt; omega, fun j hj => by
    by_cases e : j = n
    · subst e; omega
    · exact h.no j (by omega), h.first⟩
theorem Near.ex (l : List Int) (t : Int) : ∀ {n : Nat}, 0 < n → ∃ i, Near l t n i
  | 1, _ => ⟨0, Near.one l t⟩
  | n + 2, _ => by
    obtain ⟨i, h⟩ := Near.ex l t (n := n + 1) (by omega)
    by_cases hd : max (l.getD (n + 1) 0 - t) (t - l.getD (n + 1) 0) < max (l.getD i 0 - t) (t - l.getD i 0)
    · exact ⟨n + 1, h.move hd⟩
    · exact ⟨i, h.stay hd⟩
/-- from the place of a time to the nearest time -/
theorem near_back {l : List Int} (h : Inc l) (t : Int) (h0 : 0 < l.length) (hb : cl l t = l.length ∨ (0 < cl l t ∧ t - l.getD (cl l t - 1) 0 ≤ l.getD (cl l t) 0 - t)) : Near l t l.length (cl l t - 1) := by
  have hc := cl_le l t
  have low : ∀ j, j < cl l t → l.getD j 0 < t := fun j hj => (cl_iff h t (by omega)).1 hj
  have high : ∀ j, cl l t ≤ j → j < l.length → t ≤ l.getD j 0 := fun j h1 h2 => by
    have := cl_iff h t h2; omega
  have c0 : 0 < cl l t := by omega
  have p := low (cl l t - 1) (by omega)
  refine ⟨by omega, fun j hj => ?_, fun j hj => ?_⟩
  · by_cases c : j < cl l t
    · have := low j c
      have := h.le (i := j) (j := cl l t - 1) (by omega) (by omega)
      omega
    · have := high j (by omega) hj
      have := h.le (i := cl l t) (j := j) (by omega) hj
      rcases hb with hb | ⟨_, hb⟩
      · omega
      · omega
  · have := low j (by omega)
    have := h.lt (i := j) (j := cl l t - 1) (by omega) (by omega)
    omega
theorem near_here {l : List Int} (h : Inc l) (t : Int) (h1 : cl l t < l.length) (hb : ¬ (0 < cl l t ∧ t - l.getD (cl l t - 1) 0 ≤ l.getD (cl l t) 0 - t)) : Near l t l.length (cl l t) := by
  have low : ∀ j, j < cl l t → l.getD j 0 < t := fun j hj => (cl_iff h t (by omega)).1 hj
  have high : ∀ j, cl l t ≤ j → j < l.length → t ≤ l.getD j 0 := fun j h1 h2 => by
    have := cl_iff h t h2; omega
  have p := high (cl l t) (by omega) h1
  have far : ∀ j, j < cl l t → l.getD (cl l t) 0 - t < t - l.getD j 0 := fun j hj => by
    have := low j hj
    have := h.le (i := j) (j := cl l t - 1) (by omega) (by omega)
    have : 0 < cl l t := by omega
    have q : ¬ t - l.getD (cl l t - 1) 0 ≤ l.getD (cl l t) 0 - t := fun q => hb ⟨this, q⟩
    omega
  refine ⟨h1, fun j hj => ?_, fun j hj => ?_⟩
  · by_cases c : j < cl l t
    · have := far j c; have := low j c; omega
    · have := high j (by omega) hj
      have := h.le (i := cl l t) (j := j) (by omega) hj
      omega
  · have := far j hj; have := low j hj; omega
end Go.Proofs.Ytihbpbdcpnpiaaa.Gp
