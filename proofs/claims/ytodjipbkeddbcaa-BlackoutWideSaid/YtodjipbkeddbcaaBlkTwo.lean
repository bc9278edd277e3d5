/- Plain facts on lists of spans: their errors, what belongs to a result of two lists, how many times lie in a stretch, the first free time. No program stands here. -/
import Derived.Test.YtodjipbkeddbcaaBlkMath
namespace Go.Proofs.Ytodjipbkeddbcaa.Bk

/-- a valid time -/
def okT (t : Int) : Prop := 0 ≤ t ∧ t ≤ 253402300799
instance (t : Int) : Decidable (okT t) := by unfold okT; infer_instance
/-- the spans of a valid list -/
def OkS (l : List (Int × Int)) : Prop := ∀ x ∈ l, okT x.1 ∧ okT x.2 ∧ x.1 ≤ x.2
/-- a valid list -/
def OkL (l : List (Int × Int)) : Prop := l.length ≤ 64 ∧ OkS l
/-- the first error, span by span -/
def errS : List (Int × Int) → Int
  | [] => 0
  | x :: r => if okT x.1 ∧ okT x.2 then (if x.2 < x.1 then 8 else errS r) else 14
/-- the errors of a list -/
def errL (l : List (Int × Int)) : Int := if 64 < l.length then 12 else errS l
theorem errS_zero : ∀ {l : List (Int × Int)}, errS l = 0 ↔ OkS l
  | [] => by simp [errS, OkS]
  | x :: r => by
    unfold errS
    by_cases h : okT x.1 ∧ okT x.2
    · rw [if_pos h]
      by_cases k : x.2 < x.1
      · rw [if_pos k]
        refine ⟨fun e => by simp at e, fun q => ?_⟩
        have := (q x List.mem_cons_self).2.2
        omega
      · rw [if_neg k, errS_zero]
        constructor
        · intro q y hy
          rcases List.mem_cons.1 hy with e | e
          · subst e; exact ⟨h.1, h.2, by omega⟩
          · exact q y e
        · intro q y hy
          exact q y (List.mem_cons_of_mem _ hy)
    · rw [if_neg h]
      refine ⟨fun e => by simp at e, fun q => ?_⟩
      have := q x List.mem_cons_self
      exact absurd ⟨this.1, this.2.1⟩ h
theorem errL_zero {l : List (Int × Int)} : errL l = 0 ↔ OkL l := by
  unfold errL OkL
  by_cases h : 64 < l.length
  · rw [if_pos h]; exact ⟨fun e => by simp at e, fun q => by omega⟩
  · rw [if_neg h, errS_zero]; exact ⟨fun q => ⟨by omega, q⟩, fun q => q.2⟩
theorem errS_cases : ∀ (l : List (Int × Int)), errS l = 0 ∨ errS l = 8 ∨ errS l = 14
  | [] => .inl rfl
  | x :: r => by
    unfold errS
    split
    · split
      · exact .inr (.inl rfl)
      · exact errS_cases r
    · exact .inr (.inr rfl)
/-- the errors of a list whose first k spans are in order -/
theorem errS_skip : ∀ {l : List (Int × Int)} {k : Nat}, (∀ j, j < k → okT (l.getD j (0, 0)).1 ∧ okT (l.getD j (0, 0)).2 ∧ (l.getD j (0, 0)).1 ≤ (l.getD j (0, 0)).2) → k ≤ l.length → errS l = errS (l.drop k)
  | _, 0, _, _ => by simp
  | [], k + 1, _, h => by simp at h
  | x :: r, k + 1, h, hk => by
    have a := h 0 (by omega)
    simp only [List.getD_cons_zero] at a
    have e : errS (x :: r) = errS r := by
      show (if _ then _ else _) = _
      rw [if_pos ⟨a.1, a.2.1⟩, if_neg (by omega)]
    rw [e, List.drop_succ_cons]
    exact errS_skip (fun j hj => by have := h (j + 1) (by omega); simpa using this) (by simpa using hk)
theorem OkS.append {a b : List (Int × Int)} (h : OkS a) (k : OkS b) : OkS (a ++ b) := fun x hx => by
  rcases List.mem_append.1 hx with q | q
  · exact h x q
  · exact k x q
theorem OkS.has {l : List (Int × Int)} (h : OkS l) {t : Int} (k : Bk.has l t) : okT t := by
  obtain ⟨x, hx, h1, h2⟩ := k
  obtain ⟨a, b, _⟩ := h x hx
  exact ⟨by have := a.1; omega, by have := b.2; omega⟩

/-- what belongs to a result: the times of either list (1), of both (2), of the first one alone (3) -/
def want (a b : List (Int × Int)) (k : Int) (t : Int) : Bool := if k = 1 then decide (has a t) || decide (has b t) else if k = 2 then decide (has a t) && decide (has b t) else decide (has a t) && !decide (has b t)
theorem want_bd (a b : List (Int × Int)) (k : Int) : Bd (want a b k) (bords (a ++ b) []) := by
  intro t h
  have q : decide (has a t) ≠ decide (has a (t - 1)) ∨ decide (has b t) ≠ decide (has b (t - 1)) := by
    apply Classical.byContradiction
    intro q
    have q1 : decide (has a t) = decide (has a (t - 1)) := Classical.byContradiction fun e => q (.inl e)
    have q2 : decide (has b t) = decide (has b (t - 1)) := Classical.byContradiction fun e => q (.inr e)
    exact h (by unfold want; rw [q1, q2])
  rw [bords_mem]
  right
  rcases q with q | q
  · obtain ⟨x, hx, e⟩ := has_border q
    exact ⟨x, List.mem_append_left _ hx, e⟩
  · obtain ⟨x, hx, e⟩ := has_border q
    exact ⟨x, List.mem_append_right _ hx, e⟩
theorem want_ok {a b : List (Int × Int)} {k t : Int} (ha : OkS a) (hb : OkS b) (h : want a b k t = true) : okT t := by
  unfold want at h
  split at h
  · simp only [Bool.or_eq_true, decide_eq_true_eq] at h
    rcases h with h | h
    · exact ha.has h
    · exact hb.has h
  · split at h
    · simp only [Bool.and_eq_true, decide_eq_true_eq] at h; exact ha.has h.1
    · simp only [Bool.and_eq_true, decide_eq_true_eq] at h; exact ha.has h.1
/-- the result of two lists -/
structure IsRes (a b : List (Int × Int)) (k : Int) (l : List (Int × Int)) : Prop where
  norm : Norm l
  times : ∀ t, has l t ↔ want a b k t = true
theorem IsRes.uniq {a b l m : List (Int × Int)} {k : Int} (h : IsRes a b k l) (h' : IsRes a b k m) : l = m :=
  norm_uniq h.norm h'.norm fun t => (h.times t).trans (h'.times t).symm
theorem want_res {a b : List (Int × Int)} (k : Int) (ha : OkS a) (hb : OkS b) : IsRes a b k (res (want a b k) (bords (a ++ b) [])) := by
  obtain ⟨h1, h2⟩ := res_is (P := want a b k) (lo := 0) (hi := 253402300799) (bords_inc (a ++ b) (acc := []) List.Pairwise.nil) (want_bd a b k) (fun t ht => by
    apply Classical.byContradiction
    intro q
    have := (want_ok (k := k) (t := t) ha hb (by simpa using q)).1
    omega) (fun t ht => by
    apply Classical.byContradiction
    intro q
    have := (want_ok (k := k) (t := t) ha hb (by simpa using q)).2
    omega)
  exact ⟨h1, h2⟩
theorem IsRes.ok {a b l : List (Int × Int)} {k : Int} (h : IsRes a b k l) (ha : OkS a) (hb : OkS b) : OkS l := fun x hx => by
  have le := h.norm.le x hx
  exact ⟨want_ok ha hb ((h.times x.1).1 ⟨x, hx, by omega, le⟩), want_ok ha hb ((h.times x.2).1 ⟨x, hx, le, by omega⟩), le⟩
theorem IsRes.comm {a b l : List (Int × Int)} {k : Int} (hk : k = 1 ∨ k = 2) (h : IsRes a b k l) : IsRes b a k l := ⟨h.norm, fun t => by
  rw [h.times]
  unfold want
  rcases hk with rfl | rfl
  · simp only [if_pos]; rw [Bool.or_comm]
  · rw [if_neg (by omega), if_pos rfl, if_neg (by omega), if_pos rfl, Bool.and_comm]⟩
/-- it goes by the times alone -/
theorem IsRes.same {a b a' b' l : List (Int × Int)} {k : Int} (ha : ∀ t, has a t ↔ has a' t) (hb : ∀ t, has b t ↔ has b' t) (h : IsRes a b k l) : IsRes a' b' k l := ⟨h.norm, fun t => by
  rw [h.times]
  unfold want
  rw [show decide (has a t) = decide (has a' t) from decide_eq_decide.2 (ha t), show decide (has b t) = decide (has b' t) from decide_eq_decide.2 (hb t)]⟩
theorem res_one {l n : List (Int × Int)} (h : IsRes l [] 1 n) (t : Int) : has n t ↔ has l t := by
  rw [h.times]; unfold want; rw [if_pos rfl]; simp [has_nil]
theorem norm_self {n : List (Int × Int)} (h : Norm n) : IsRes n [] 1 n := ⟨h, fun t => by unfold want; rw [if_pos rfl]; simp [has_nil]⟩
theorem want_1 {a b : List (Int × Int)} {t : Int} : want a b 1 t = true ↔ has a t ∨ has b t := by unfold want; rw [if_pos rfl]; simp
theorem want_2 {a b : List (Int × Int)} {t : Int} : want a b 2 t = true ↔ has a t ∧ has b t := by unfold want; rw [if_neg (by omega), if_pos rfl]; simp
theorem want_3 {a b : List (Int × Int)} {t : Int} : want a b 3 t = true ↔ has a t ∧ ¬ has b t := by unfold want; rw [if_neg (by omega), if_neg (by omega)]; simp
theorem ext_len (l : List (Int × Int)) (a b : Int) : (ext l a b).length ≤ l.length + 1 := by
  unfold ext
  split
  · rename_i y hy
    have e := congrArg List.length (last_split hy)
    simp at e
    split
    · simp only [List.length_append, List.length_dropLast, List.length_singleton]; omega
    · simp only [List.length_append, List.length_singleton]; omega
  · simp only [List.length_append, List.length_singleton]; omega
theorem resTo_len (P : Int → Bool) (l : List Int) : ∀ i, (resTo P l i).length ≤ i
  | 0 => by simp [resTo]
  | i + 1 => by
    have h := resTo_len P l i
    show (if _ then _ else _ : List (Int × Int)).length ≤ _
    split
    · have := ext_len (resTo P l i) (l.getD i 0) (l.getD (i + 1) 0); omega
    · omega
theorem ins_len : ∀ (l : List Int) (t : Int), (ins l t).length ≤ l.length + 1
  | [], t => by simp [ins]
  | x :: r, t => by
    unfold ins
    split
    · have := ins_len r t; simp; omega
    · split <;> simp
theorem bords_len : ∀ (l : List (Int × Int)) (acc : List Int), (bords l acc).length ≤ acc.length + 2 * l.length
  | [], acc => by simp [bords]
  | x :: r, acc => by
    have h := bords_len r (ins (ins acc x.1) (x.2 + 1))
    have h1 := ins_len acc x.1
    have h2 := ins_len (ins acc x.1) (x.2 + 1)
    unfold bords
    simp only [List.length_cons]
    omega

/-- increasing numbers that are all in a list are not more than those of the list -/
theorem len_sub : ∀ (l m : List Int), l.Nodup → (∀ x ∈ l, x ∈ m) → l.length ≤ m.length
  | [], m, _, _ => by simp
  | x :: r, m, h, hm => by
    rw [List.nodup_cons] at h
    have a := hm x List.mem_cons_self
    have b := len_sub r (m.erase x) h.2 (fun y hy => (List.mem_erase_of_ne (by intro e; subst e; exact h.1 hy)).2 (hm y (List.mem_cons_of_mem _ hy)))
    have c := List.length_erase_of_mem a
    have d := List.length_pos_of_mem a
    simp only [List.length_cons]
    omega
/-- no list with the same times has fewer spans than the normal one -/
theorem norm_least {l n : List (Int × Int)} (hn : Norm n) (h : ∀ t, has n t ↔ has l t) : n.length ≤ l.length := by
  have nd : (n.map (·.1)).Nodup := by
    rw [List.Nodup, List.pairwise_map]
    refine List.Pairwise.imp_of_mem (fun {x y} hx _ q => ?_) hn.gap
    have := hn.le x hx
    omega
  have := len_sub (n.map (·.1)) (l.map (·.1)) nd (fun u hu => by
    obtain ⟨x, hx, rfl⟩ := List.mem_map.1 hu
    have le := hn.le x hx
    have a : has l x.1 := (h _).1 ⟨x, hx, by omega, le⟩
    have b : ¬ has l (x.1 - 1) := fun q => by
      obtain ⟨y, hy, h1, h2⟩ := (h _).2 q
      by_cases e : y = x
      · subst e; omega
      · obtain ⟨i, hi, ei⟩ := List.getElem_of_mem hx
        obtain ⟨j, hj, ej⟩ := List.getElem_of_mem hy
        have gp := List.pairwise_iff_getElem.1 hn.gap
        by_cases lt : i < j
        · have := gp i j hi hj lt; rw [ei, ej] at this; omega
        · by_cases lt' : j < i
          · have := gp j i hj hi lt'; rw [ei, ej] at this; omega
          · have e2 : i = j := by omega
            subst e2; exact e (ej.symm.trans ei)
    obtain ⟨y, hy, h1, h2⟩ := a
    refine List.mem_map.2 ⟨y, hy, ?_⟩
    apply Classical.byContradiction
    intro q
    exact b ⟨y, hy, by omega, by omega⟩)
  simpa using this

/-- how many of so many numbers from a on belong to it -/
def cnt (P : Int → Bool) (a : Int) : Nat → Int
  | 0 => 0
  | n + 1 => cnt P a n + (if P (a + n) = true then 1 else 0)
theorem cnt_succ (P : Int → Bool) (a : Int) (n : Nat) : cnt P a (n + 1) = cnt P a n + (if P (a + n) = true then 1 else 0) := rfl
theorem cnt_bounds (P : Int → Bool) (a : Int) : ∀ n : Nat, 0 ≤ cnt P a n ∧ cnt P a n ≤ n
  | 0 => by simp [cnt]
  | n + 1 => by
    have := cnt_bounds P a n
    rw [cnt_succ]
    split <;> omega
theorem cnt_add (P : Int → Bool) (a : Int) (n : Nat) : ∀ m : Nat, cnt P a (n + m) = cnt P a n + cnt P (a + n) m
  | 0 => by simp [cnt]
  | m + 1 => by
    rw [← Nat.add_assoc, cnt_succ, cnt_succ, cnt_add P a n m, show a + ((n + m : Nat) : Int) = a + n + m by omega]
    omega
theorem cnt_congr {P Q : Int → Bool} {a : Int} : ∀ {n : Nat}, (∀ t, a ≤ t → t < a + n → P t = Q t) → cnt P a n = cnt Q a n
  | 0, _ => rfl
  | n + 1, h => by
    rw [cnt_succ, cnt_succ, cnt_congr (fun t h1 h2 => h t h1 (by omega)), h (a + n) (by omega) (by omega)]
theorem cnt_false (a : Int) : ∀ n : Nat, cnt (fun _ => false) a n = 0
  | 0 => rfl
  | n + 1 => by rw [cnt_succ, cnt_false a n]; simp
theorem cnt_true (a : Int) : ∀ n : Nat, cnt (fun _ => true) a n = n
  | 0 => rfl
  | n + 1 => by rw [cnt_succ, cnt_true a n]; simp
theorem cnt_two (P Q : Int → Bool) (a : Int) : ∀ n : Nat, cnt (fun t => P t || Q t) a n + cnt (fun t => P t && Q t) a n = cnt P a n + cnt Q a n
  | 0 => by simp [cnt]
  | n + 1 => by
    have := cnt_two P Q a n
    simp only [cnt_succ]
    by_cases hp : P (a + n) = true <;> by_cases hq : Q (a + n) = true <;> simp [hp, hq] <;> omega
theorem cnt_part (P Q : Int → Bool) (a : Int) : ∀ n : Nat, cnt P a n = cnt (fun t => P t && Q t) a n + cnt (fun t => P t && !Q t) a n
  | 0 => by simp [cnt]
  | n + 1 => by
    have := cnt_part P Q a n
    simp only [cnt_succ]
    by_cases hp : P (a + n) = true <;> by_cases hq : Q (a + n) = true <;> simp [hp, hq] <;> omega
/-- the lengths of spans, added up -/
def sumL : List (Int × Int) → Int
  | [] => 0
  | x :: r => (x.2 - x.1 + 1) + sumL r
theorem sumL_is : ∀ {l : List (Int × Int)} {a : Int} {n : Nat}, Norm l → (∀ x ∈ l, a ≤ x.1 ∧ x.2 < a + n) → sumL l = cnt (fun t => decide (has l t)) a n
  | [], a, n, _, _ => by
    rw [cnt_congr (Q := fun _ => false) (fun t _ _ => by simp [has_nil]), cnt_false]
    rfl
  | x :: r, a, n, h, hb => by
    obtain ⟨nr, le, gp⟩ := h.tail
    obtain ⟨b1, b2⟩ := hb x List.mem_cons_self
    obtain ⟨p, hp⟩ := Int.eq_ofNat_of_zero_le (show 0 ≤ x.1 - a by omega)
    obtain ⟨q, hq⟩ := Int.eq_ofNat_of_zero_le (show 0 ≤ x.2 - x.1 + 1 by omega)
    obtain ⟨s, hs⟩ := Int.eq_ofNat_of_zero_le (show 0 ≤ a + n - (x.2 + 1) by omega)
    have en : n = p + (q + s) := by omega
    have ih := sumL_is (l := r) (a := x.2 + 1) (n := s) nr (fun y hy => ⟨by have := gp y hy; omega, by have := (hb y (List.mem_cons_of_mem _ hy)).2; omega⟩)
    rw [en, cnt_add, cnt_add, show a + (p : Int) = x.1 by omega, show x.1 + (q : Int) = x.2 + 1 by omega]
    have c1 : cnt (fun t => decide (has (x :: r) t)) a p = 0 := by
      rw [cnt_congr (Q := fun _ => false) (fun t h1 h2 => by
        have : ¬ has (x :: r) t := fun k => by have := h.first k; omega
        simpa using this), cnt_false]
    have c2 : cnt (fun t => decide (has (x :: r) t)) x.1 q = q := by
      rw [cnt_congr (Q := fun _ => true) (fun t h1 h2 => by simpa using has_cons.2 (.inl ⟨h1, by omega⟩)), cnt_true]
    have c3 : cnt (fun t => decide (has (x :: r) t)) (x.2 + 1) s = cnt (fun t => decide (has r t)) (x.2 + 1) s := cnt_congr (fun t h1 h2 => by
      rw [decide_eq_decide, has_cons]
      exact ⟨fun k => by
        rcases k with k | k
        · omega
        · exact k, fun k => .inr k⟩)
    rw [c1, c2, c3, ← ih]
    show (x.2 - x.1 + 1) + sumL r = _
    omega
theorem sumL_append (l m : List (Int × Int)) : sumL (l ++ m) = sumL l + sumL m := by
  induction l with
  | nil => simp [sumL]
  | cons x r ih => simp only [List.cons_append, sumL, ih]; omega
/-- how many times from a to b a list has -/
def len (l : List (Int × Int)) (a b : Int) : Int := cnt (fun t => decide (has l t)) a (b - a + 1).toNat
theorem len_is {l n : List (Int × Int)} {a b : Int} (le : a ≤ b) (h : IsRes l [(a, b)] 2 n) : sumL n = len l a b := by
  have inside : ∀ t, has n t ↔ has l t ∧ (a ≤ t ∧ t ≤ b) := fun t => by rw [h.times, want_2, has_one]
  rw [sumL_is (a := a) (n := (b - a + 1).toNat) h.norm (fun x hx => by
    have lx := h.norm.le x hx
    have h1 := ((inside x.1).1 ⟨x, hx, by omega, lx⟩).2
    have h2 := ((inside x.2).1 ⟨x, hx, lx, by omega⟩).2
    omega)]
  unfold len
  exact cnt_congr (fun t h1 h2 => by
    rw [decide_eq_decide, inside]
    exact ⟨fun k => k.1, fun k => ⟨k, by omega⟩⟩)
theorem len_bounds {l : List (Int × Int)} {a b : Int} (le : a ≤ b) : 0 ≤ len l a b ∧ len l a b ≤ b - a + 1 := by
  have := cnt_bounds (fun t => decide (has l t)) a (b - a + 1).toNat
  unfold len
  omega
theorem len_split {l : List (Int × Int)} {a y b : Int} (h1 : a ≤ y) (h2 : y < b) : len l a b = len l a y + len l (y + 1) b := by
  unfold len
  have e : (b - a + 1).toNat = (y - a + 1).toNat + (b - (y + 1) + 1).toNat := by omega
  rw [e, cnt_add, show a + ((y - a + 1).toNat : Int) = y + 1 by omega]
theorem len_same {l m : List (Int × Int)} {a b : Int} (h : ∀ t, has l t ↔ has m t) : len l a b = len m a b := by
  unfold len
  exact cnt_congr (fun t _ _ => decide_eq_decide.2 (h t))
theorem res_cnt {a b u : List (Int × Int)} {k : Int} (h : IsRes a b k u) (x : Int) (n : Nat) : cnt (fun t => decide (has u t)) x n = cnt (want a b k) x n :=
  cnt_congr (fun t _ _ => Bool.eq_iff_iff.2 (by simpa using h.times t))
theorem want_f1 (a b : List (Int × Int)) : want a b 1 = fun t => decide (has a t) || decide (has b t) := by funext t; unfold want; rw [if_pos rfl]
theorem want_f2 (a b : List (Int × Int)) : want a b 2 = fun t => decide (has a t) && decide (has b t) := by funext t; unfold want; rw [if_neg (by omega), if_pos rfl]
theorem want_f3 (a b : List (Int × Int)) : want a b 3 = fun t => decide (has a t) && !decide (has b t) := by funext t; unfold want; rw [if_neg (by omega), if_neg (by omega)]
theorem len_two {a b u v : List (Int × Int)} {x y : Int} (hu : IsRes a b 1 u) (hv : IsRes a b 2 v) : len a x y + len b x y = len u x y + len v x y := by
  unfold len
  rw [res_cnt hu, res_cnt hv, want_f1, want_f2, cnt_two]
theorem len_part {a b v w : List (Int × Int)} {x y : Int} (hv : IsRes a b 2 v) (hw : IsRes a b 3 w) : len a x y = len v x y + len w x y := by
  unfold len
  rw [res_cnt hv, res_cnt hw, want_f2, want_f3, ← cnt_part]

/-- the first free time from t on -/
def IsFree (l : List (Int × Int)) (t v : Int) (b : Bool) : Prop := (b = true ∧ t ≤ v ∧ v ≤ 253402300799 ∧ ¬ has l v ∧ ∀ u, t ≤ u → u < v → has l u) ∨ (b = false ∧ v = 0 ∧ ∀ u, t ≤ u → u ≤ 253402300799 → has l u)
theorem IsFree.uniq {l : List (Int × Int)} {t v v' : Int} {b b' : Bool} (h : IsFree l t v b) (h' : IsFree l t v' b') : v = v' ∧ b = b' := by
  rcases h with ⟨rfl, h1, h2, h3, h4⟩ | ⟨rfl, rfl, h4⟩ <;> rcases h' with ⟨rfl, k1, k2, k3, k4⟩ | ⟨rfl, rfl, k4⟩
  · refine ⟨?_, rfl⟩
    have a : ¬ v < v' := fun q => h3 (k4 v h1 q)
    have b : ¬ v' < v := fun q => k3 (h4 v' k1 q)
    omega
  · exact absurd (k4 v h1 h2) h3
  · exact absurd (h4 v' k1 k2) k3
  · exact ⟨rfl, rfl⟩
theorem IsFree.same {l m : List (Int × Int)} {t v : Int} {b : Bool} (e : ∀ t, has l t ↔ has m t) (h : IsFree l t v b) : IsFree m t v b := by
  rcases h with ⟨rfl, h1, h2, h3, h4⟩ | ⟨rfl, rfl, h4⟩
  · exact .inl ⟨rfl, h1, h2, fun k => h3 ((e v).2 k), fun u a b => (e u).1 (h4 u a b)⟩
  · exact .inr ⟨rfl, rfl, fun u a b => (e u).1 (h4 u a b)⟩
/-- pushed on, span by span -/
def fre : List (Int × Int) → Int → Int
  | [], t => t
  | x :: r, t => fre r (if x.1 ≤ t ∧ t ≤ x.2 then x.2 + 1 else t)
theorem fre_id : ∀ {l : List (Int × Int)} {t : Int}, ¬ has l t → fre l t = t
  | [], t, _ => rfl
  | x :: r, t, h => by
    unfold fre
    rw [if_neg (fun k => h (has_cons.2 (.inl k)))]
    exact fre_id (fun k => h (has_cons.2 (.inr k)))
theorem fre_is : ∀ {l : List (Int × Int)} {t : Int}, Norm l → t ≤ fre l t ∧ ¬ has l (fre l t) ∧ ∀ u, t ≤ u → u < fre l t → has l u
  | [], t, _ => ⟨Int.le_refl _, has_nil _, fun u h1 h2 => by unfold fre at h2; omega⟩
  | x :: r, t, h => by
    obtain ⟨nr, le, gp⟩ := h.tail
    unfold fre
    by_cases k : x.1 ≤ t ∧ t ≤ x.2
    · rw [if_pos k]
      have n : ¬ has r (x.2 + 1) := fun q => by have := h.has_tail q; omega
      rw [fre_id n]
      refine ⟨by omega, fun q => ?_, fun u h1 h2 => has_cons.2 (.inl (by omega))⟩
      rcases has_cons.1 q with q | q
      · omega
      · exact n q
    · rw [if_neg k]
      obtain ⟨a, b, c⟩ := fre_is (l := r) (t := t) nr
      refine ⟨a, fun q => ?_, fun u h1 h2 => has_cons.2 (.inr (c u h1 h2))⟩
      rcases has_cons.1 q with q | q
      · by_cases e : fre r t = t
        · rw [e] at q; exact k q
        · have := h.has_tail (c t (by omega) (by omega)); omega
      · exact b q
theorem fre_free {l : List (Int × Int)} {t : Int} (h : Norm l) : (fre l t ≤ 253402300799 → IsFree l t (fre l t) true) ∧ (253402300799 < fre l t → IsFree l t 0 false) := by
  obtain ⟨a, b, c⟩ := fre_is (t := t) h
  exact ⟨fun k => .inl ⟨rfl, a, k, b, c⟩, fun k => .inr ⟨rfl, rfl, fun u h1 h2 => c u h1 (by omega)⟩⟩
theorem free_ex {l : List (Int × Int)} (t : Int) (h : OkS l) : ∃ v b, IsFree l t v b := by
  have n := want_res (a := l) (b := []) 1 h (fun x hx => by simp at hx)
  obtain ⟨f1, f2⟩ := fre_free (t := t) n.norm
  by_cases k : fre (res (want l [] 1) (bords (l ++ []) [])) t ≤ 253402300799
  · exact ⟨_, _, (f1 k).same (res_one n)⟩
  · exact ⟨_, _, (f2 (by omega)).same (res_one n)⟩
end Go.Proofs.Ytodjipbkeddbcaa.Bk
