/- Plain mathematics of texts that are cut at some of their bytes: pieces, lines, words. No program stands here. -/
namespace Go.Proofs.YtjlipkklljjdjaaDoor.Lex
/-- how many of the first k bytes separate -/
def cnt (b : Nat → Bool) : Nat → Nat
  | 0 => 0
  | k + 1 => if b k then cnt b k + 1 else cnt b k
/-- the pieces that end before byte k, and where the next one begins -/
def cut (b : Nat → Bool) : Nat → List (Nat × Nat) × Nat
  | 0 => ([], 0)
  | k + 1 => if b k then ((cut b k).1 ++ [((cut b k).2, k)], k + 1) else cut b k
/-- the pieces of n bytes: where each begins, and where it ends -/
def pcs (b : Nat → Bool) (n : Nat) : List (Nat × Nat) := (cut b n).1 ++ (if (cut b n).2 < n then [((cut b n).2, n)] else [])

theorem cut_yes {b : Nat → Bool} {k : Nat} (h : b k = true) : cut b (k + 1) = ((cut b k).1 ++ [((cut b k).2, k)], k + 1) := by simp [cut, h]
theorem cut_no {b : Nat → Bool} {k : Nat} (h : b k = false) : cut b (k + 1) = cut b k := by simp [cut, h]
theorem cnt_yes {b : Nat → Bool} {k : Nat} (h : b k = true) : cnt b (k + 1) = cnt b k + 1 := by simp [cnt, h]
theorem cnt_no {b : Nat → Bool} {k : Nat} (h : b k = false) : cnt b (k + 1) = cnt b k := by simp [cnt, h]
theorem cnt_le (b : Nat → Bool) (k : Nat) : cnt b k ≤ k := by
  induction k with
  | zero => simp [cnt]
  | succ k ih => simp only [cnt]; split <;> omega
theorem cnt_mono (b : Nat → Bool) {j k : Nat} (h : j ≤ k) : cnt b j ≤ cnt b k := by
  induction k with
  | zero => obtain rfl : j = 0 := by omega
            exact Nat.le_refl _
  | succ k ih =>
    rcases Nat.lt_or_ge k j with c | c
    · obtain rfl : j = k + 1 := by omega
      exact Nat.le_refl _
    · have := ih c
      simp only [cnt]; split <;> omega
theorem cnt_same (b : Nat → Bool) {f t : Nat} (h : f ≤ t) (hn : ∀ j, f ≤ j → j < t → b j = false) : cnt b t = cnt b f := by
  induction t with
  | zero => obtain rfl : f = 0 := by omega
            rfl
  | succ t ih =>
    rcases Nat.lt_or_ge t f with c | c
    · obtain rfl : f = t + 1 := by omega
      rfl
    · rw [cnt_no (hn t c (by omega)), ih c (fun j a e => hn j a (by omega))]

theorem snoc_next {L : List (Nat × Nat)} {f x : Nat} (hlast : ∀ h : L ≠ [], f = (L.getLast h).2 + 1) (hnext : ∀ i (h : i + 1 < L.length), L[i + 1].1 = L[i].2 + 1)
    (i : Nat) (h : i + 1 < (L ++ [(f, x)]).length) : (L ++ [(f, x)])[i + 1].1 = (L ++ [(f, x)])[i].2 + 1 := by
  simp only [List.length_append, List.length_cons, List.length_nil] at h
  rcases Nat.lt_or_ge (i + 1) L.length with c | c
  · simp only [List.getElem_append_left c, List.getElem_append_left (show i < L.length by omega)]
    exact hnext i c
  · have e : i + 1 = L.length := by omega
    have ne : L ≠ [] := by rintro rfl; simp at e
    have hla := hlast ne
    rw [List.getLast_eq_getElem] at hla
    rw [List.getElem_append_right (by omega), List.getElem_append_left (show i < L.length by omega)]
    simp only [e, Nat.sub_self, List.getElem_cons_zero]
    have ei : L.length - 1 = i := by omega
    exact hla.trans (by simp only [ei])
/-- what is known of the pieces of k bytes -/
structure Known (b : Nat → Bool) (k : Nat) (L : List (Nat × Nat)) (f : Nat) : Prop where
  len : L.length = cnt b k
  fk : f ≤ k
  no : ∀ j, f ≤ j → j < k → b j = false
  first : L = [] → f = 0
  last : ∀ h : L ≠ [], f = (L.getLast h).2 + 1
  at_ : ∀ i (h : i < L.length), L[i].1 ≤ L[i].2 ∧ L[i].2 < f ∧ b L[i].2 = true ∧ (∀ j, L[i].1 ≤ j → j < L[i].2 → b j = false) ∧ cnt b L[i].1 = i
  zero : ∀ h : 0 < L.length, L[0].1 = 0
  next : ∀ i (h : i + 1 < L.length), L[i + 1].1 = L[i].2 + 1
theorem known (b : Nat → Bool) (k : Nat) : Known b k (cut b k).1 (cut b k).2 := by
  induction k with
  | zero => exact ⟨rfl, Nat.le_refl _, fun j a c => by omega, fun _ => rfl, fun h => (h rfl).elim, fun i h => by simp [cut] at h, fun h => by simp [cut] at h, fun i h => by simp [cut] at h⟩
  | succ k ih =>
    by_cases hb : b k = true
    · rw [cut_yes hb]
      generalize hL : (cut b k).1 = L at ih
      generalize hf : (cut b k).2 = f at ih
      have hl := ih.len
      have hcf : cnt b f = L.length := by rw [hl]; exact (cnt_same b ih.fk ih.no).symm
      refine ⟨?_, ?_, ?_, ?_, ?_, ?_, ?_, ?_⟩
      · rw [cnt_yes hb]; simp [hl]
      · exact Nat.le_refl _
      · intro j a c
        have := ih.fk
        simp only at a c
        omega
      · intro h; simp at h
      · intro h; simp
      · intro i h
        simp only [List.length_append, List.length_cons, List.length_nil] at h
        rcases Nat.lt_or_ge i L.length with c | c
        · have q := ih.at_ i c
          have := ih.fk
          simp only [List.getElem_append_left c]
          exact ⟨q.1, by omega, q.2.2⟩
        · obtain rfl : i = L.length := by omega
          simp only [List.getElem_append_right (Nat.le_refl _), Nat.sub_self, List.getElem_cons_zero]
          exact ⟨ih.fk, by omega, hb, fun j a e => ih.no j a e, hcf⟩
      · intro h
        cases L with
        | nil => exact ih.first rfl
        | cons x L => exact ih.zero (by simp)
      · exact snoc_next ih.last ih.next
    · have hb : b k = false := by simpa using hb
      rw [cut_no hb]
      refine ⟨by rw [cnt_no hb]; exact ih.len, by have := ih.fk; omega, fun j a c => ?_, ih.first, ih.last, fun i h => ?_, ih.zero, ih.next⟩
      · rcases Nat.lt_or_ge j k with q | q
        · exact ih.no j a q
        · obtain rfl : j = k := by omega
          exact hb
      · exact ih.at_ i h

theorem cut_le (b : Nat → Bool) (k : Nat) : (cut b k).2 ≤ k := (known b k).fk
theorem cut_prefix (b : Nat → Bool) {j k : Nat} (h : j ≤ k) : (cut b j).1 <+: (cut b k).1 := by
  induction k with
  | zero => obtain rfl : j = 0 := by omega
            exact List.prefix_refl _
  | succ k ih =>
    rcases Nat.lt_or_ge k j with c | c
    · obtain rfl : j = k + 1 := by omega
      exact List.prefix_refl _
    · by_cases hb : b k = true
      · rw [cut_yes hb]
        exact (ih c).trans (List.prefix_append _ _)
      · rw [cut_no (by simpa using hb)]
        exact ih c
theorem cut_pcs (b : Nat → Bool) {j n : Nat} (h : j ≤ n) : (cut b j).1 <+: pcs b n := (cut_prefix b h).trans (List.prefix_append _ _)
theorem cut_len (b : Nat → Bool) (k : Nat) : (cut b k).1.length ≤ k := by rw [(known b k).len]; exact cnt_le b k
theorem pcs_len (b : Nat → Bool) (n : Nat) : (pcs b n).length ≤ n := by
  have K := known b n
  have hc := cnt_same b K.fk K.no
  have := cnt_le b (cut b n).2
  have := K.len
  have := K.fk
  unfold pcs
  split <;> simp <;> omega
/-- each piece of n bytes -/
structure Piece (b : Nat → Bool) (n i : Nat) (x : Nat × Nat) : Prop where
  le : x.1 ≤ x.2
  top : x.2 ≤ n
  no : ∀ j, x.1 ≤ j → j < x.2 → b j = false
  cntb : Lex.cnt b x.1 = i
  ends : x.2 < n → b x.2 = true
  more : x.2 = n → x.1 < x.2
theorem piece (b : Nat → Bool) (n i : Nat) (h : i < (pcs b n).length) : Piece b n i (pcs b n)[i] := by
  have K := known b n
  have hc := cnt_same b K.fk K.no
  unfold pcs at h ⊢
  generalize hL : (cut b n).1 = L at *
  generalize hf : (cut b n).2 = f at *
  rcases Nat.lt_or_ge i L.length with c | c
  · have q := K.at_ i c
    have := K.fk
    simp only [List.getElem_append_left c]
    exact ⟨q.1, by omega, q.2.2.2.1, q.2.2.2.2, fun _ => q.2.2.1, fun e => by omega⟩
  · simp only [List.getElem_append_right c]
    by_cases hlt : f < n
    · simp only [hlt, if_true, List.length_append, List.length_cons, List.length_nil] at h ⊢
      obtain rfl : i = L.length := by omega
      simp only [Nat.sub_self, List.getElem_cons_zero]
      exact ⟨by simp; omega, Nat.le_refl _, K.no, by have := K.len; simp only; omega, fun h => by simp at h, fun _ => hlt⟩
    · simp only [hlt, if_false, List.append_nil] at h
      omega
theorem pcs_zero (b : Nat → Bool) (n : Nat) (h : 0 < (pcs b n).length) : (pcs b n)[0].1 = 0 := by
  have K := known b n
  unfold pcs at h ⊢
  generalize hL : (cut b n).1 = L at *
  generalize hf : (cut b n).2 = f at *
  cases L with
  | cons x L => exact K.zero (by simp)
  | nil =>
    have := K.first rfl
    subst this
    by_cases hlt : 0 < n
    · simp [hlt]
    · simp [hlt] at h
theorem pcs_next (b : Nat → Bool) (n i : Nat) (h : i + 1 < (pcs b n).length) : (pcs b n)[i + 1].1 = ((pcs b n)[i]'(by omega)).2 + 1 := by
  have K := known b n
  by_cases hlt : (cut b n).2 < n
  · have e : pcs b n = (cut b n).1 ++ [((cut b n).2, n)] := by simp [pcs, hlt]
    have h' : i + 1 < ((cut b n).1 ++ [((cut b n).2, n)]).length := by rw [← e]; exact h
    have q := snoc_next K.last K.next i h'
    simp only [e]
    exact q
  · have e : pcs b n = (cut b n).1 := by simp [pcs, hlt]
    have h' : i + 1 < (cut b n).1.length := by rw [← e]; exact h
    simp only [e]
    exact K.next i h'
end Go.Proofs.YtjlipkklljjdjaaDoor.Lex
