/- Plain mathematics of words and lines: what lies between words, the words of words that are joined, the lines put together again. No program stands here. -/
import Derived.Test.YtjlipkklljjdjaaDoorLexMath
namespace Go.Proofs.YtjlipkklljjdjaaDoor.Lex
/-- the pieces that are not empty -/
def full (l : List (Nat × Nat)) : List (Nat × Nat) := l.filter fun x => decide (x.1 < x.2)
theorem full_snoc_yes {l : List (Nat × Nat)} {f t : Nat} (h : f < t) : full (l ++ [(f, t)]) = full l ++ [(f, t)] := by simp [full, h]
theorem full_snoc_no {l : List (Nat × Nat)} {f t : Nat} (h : ¬ f < t) : full (l ++ [(f, t)]) = full l := by simp [full, h]
theorem full_len (l : List (Nat × Nat)) : (full l).length ≤ l.length := List.length_filter_le _ _
/-- where the last one ends -/
def ends (l : List (Nat × Nat)) : Nat := (l.getLast?.map (·.2)).getD 0
theorem ends_snoc (l : List (Nat × Nat)) (x : Nat × Nat) : ends (l ++ [x]) = x.2 := by simp [ends]
theorem ends_nil : ends [] = 0 := rfl
theorem ends_take (l : List (Nat × Nat)) (i : Nat) (h : i < l.length) : ends (l.take (i + 1)) = l[i].2 := by
  rw [List.take_succ_eq_append_getElem h, ends_snoc]

/-- what is known of the words W of the bytes before f: b says what a blank is -/
structure Words (b : Nat → Bool) (f : Nat) (W : List (Nat × Nat)) : Prop where
  at_ : ∀ i (h : i < W.length), W[i].1 < W[i].2 ∧ W[i].2 ≤ f ∧ ends (W.take i) ≤ W[i].1 ∧ (0 < i → ends (W.take i) < W[i].1) ∧ (∀ j, W[i].1 ≤ j → j < W[i].2 → b j = false) ∧ (∀ j, ends (W.take i) ≤ j → j < W[i].1 → b j = true)
  gap : ∀ j, ends W ≤ j → j < f → b j = true
  le : ends W ≤ f
theorem Words.snoc {b : Nat → Bool} {f k t : Nat} {W : List (Nat × Nat)} (h : Words b f W) (hf : f < k) (ht : k ≤ t) (hW : W ≠ [] → ends W < f) (hno : ∀ j, f ≤ j → j < k → b j = false) (hg : ∀ j, k ≤ j → j < t → b j = true) : Words b t (W ++ [(f, k)]) := by
  refine ⟨fun i hi => ?_, fun j a c => ?_, ?_⟩
  · simp only [List.length_append, List.length_cons, List.length_nil] at hi
    rcases Nat.lt_or_ge i W.length with c | c
    · have q := h.at_ i c
      rw [List.take_append_of_le_length (by omega)]
      simp only [List.getElem_append_left c]
      exact ⟨q.1, by omega, q.2.2⟩
    · obtain rfl : i = W.length := by omega
      rw [List.take_append_of_le_length (Nat.le_refl _), List.take_length]
      simp only [List.getElem_append_right (Nat.le_refl _), Nat.sub_self, List.getElem_cons_zero]
      have := h.le
      exact ⟨hf, ht, h.le, fun p => hW (by rintro rfl; simp at p), hno, h.gap⟩
  · rw [ends_snoc] at a
    exact hg j a c
  · rw [ends_snoc]; exact ht
theorem cut_words (b : Nat → Bool) (k : Nat) : Words b (cut b k).2 (full (cut b k).1) ∧ (full (cut b k).1 ≠ [] → ends (full (cut b k).1) < (cut b k).2) := by
  induction k with
  | zero => exact ⟨⟨fun i h => by simp [cut, full] at h, fun j a c => by simp [cut] at c, by simp [cut, full, ends]⟩, fun h => by simp [cut, full] at h⟩
  | succ k ih =>
    have K := known b k
    by_cases hb : b k = true
    · rw [cut_yes hb]
      generalize (cut b k).1 = L at *
      generalize (cut b k).2 = f at *
      have fk := K.fk
      by_cases hf : f < k
      · simp only [full_snoc_yes hf]
        refine ⟨ih.1.snoc hf (by omega) ih.2 K.no fun j a c => ?_, fun _ => by rw [ends_snoc]; simp⟩
        obtain rfl : j = k := by omega
        exact hb
      · simp only [full_snoc_no hf]
        obtain rfl : f = k := by omega
        refine ⟨⟨fun i h => ?_, fun j a c => ?_, by have := ih.1.le; omega⟩, fun h => by have := ih.2 h; omega⟩
        · have q := ih.1.at_ i h
          exact ⟨q.1, by omega, q.2.2⟩
        · rcases Nat.lt_or_ge j f with d | d
          · exact ih.1.gap j a d
          · obtain rfl : j = f := by omega
            exact hb
    · rw [cut_no (by simpa using hb)]
      exact ih
theorem pcs_words (b : Nat → Bool) (n : Nat) : Words b n (full (pcs b n)) := by
  have K := known b n
  have q := cut_words b n
  have fk := K.fk
  unfold pcs
  by_cases hf : (cut b n).2 < n
  · rw [if_pos hf, full_snoc_yes hf]
    exact q.1.snoc hf (Nat.le_refl _) q.2 K.no fun j a c => by omega
  · rw [if_neg hf, List.append_nil]
    have e : (cut b n).2 = n := by omega
    have q1 := q.1
    rw [e] at q1
    exact q1

/-! words, byte by byte -/
section
variable {α : Type}
/-- the bytes of a piece -/
def part (l : List α) (x : Nat × Nat) : List α := (l.take x.2).drop x.1
/-- the words of the bytes to come, behind those of a word that is under way -/
def wl (p : α → Bool) : List α → List α → List (List α)
  | acc, [] => if acc.isEmpty then [] else [acc]
  | acc, c :: r => if p c then (if acc.isEmpty then wl p [] r else acc :: wl p [] r) else wl p (acc ++ [c]) r
theorem part_len (l : List α) (x : Nat × Nat) (h : x.2 ≤ l.length) : (part l x).length = x.2 - x.1 := by simp [part]; omega
theorem part_snoc (l : List α) (f k : Nat) (hf : f ≤ k) (h : k < l.length) : part l (f, k + 1) = part l (f, k) ++ [l[k]] := by
  unfold part
  simp only
  rw [List.take_succ_eq_append_getElem h, List.drop_append_of_le_length (by simp; omega)]
theorem part_self (l : List α) (k : Nat) : part l (k, k) = [] := by
  unfold part
  exact List.drop_eq_nil_of_le (by simp; omega)
theorem part_ne {l : List α} {f k : Nat} (hf : f < k) (h : k ≤ l.length) : (part l (f, k)).isEmpty = false := by
  have := part_len l (f, k) h
  cases e : part l (f, k) with
  | nil => rw [e] at this; simp at this; omega
  | cons x r => rfl
theorem wl_cut (p : α → Bool) (l : List α) (b : Nat → Bool) (hb : ∀ k (h : k < l.length), b k = p l[k]) (k : Nat) (hk : k ≤ l.length) :
    wl p [] l = (full (cut b k).1).map (part l) ++ wl p (part l ((cut b k).2, k)) (l.drop k) := by
  induction k with
  | zero => simp [cut, full, part_self]
  | succ k ih =>
    have hk' : k < l.length := by omega
    have K := known b k
    have fk := K.fk
    rw [ih (by omega), List.drop_eq_getElem_cons hk']
    have e := hb k hk'
    by_cases c : b k = true
    · rw [cut_yes c]
      rw [e] at c
      by_cases hf : (cut b k).2 < k
      · rw [full_snoc_yes hf]
        simp only [part_self]
        rw [wl, if_pos c, part_ne hf (by omega)]
        simp
      · rw [full_snoc_no hf]
        have ek : (cut b k).2 = k := by omega
        rw [ek]
        simp only [part_self]
        rw [wl, if_pos c]
        simp
    · have c' : b k = false := by simpa using c
      rw [cut_no c']
      rw [e] at c'
      rw [wl, if_neg (by rw [c']; simp), part_snoc l _ k fk hk']
theorem wl_pcs (p : α → Bool) (l : List α) (b : Nat → Bool) (hb : ∀ k (h : k < l.length), b k = p l[k]) : wl p [] l = (full (pcs b l.length)).map (part l) := by
  have K := known b l.length
  have fk := K.fk
  rw [wl_cut p l b hb l.length (Nat.le_refl _), List.drop_length]
  unfold pcs
  by_cases hf : (cut b l.length).2 < l.length
  · rw [if_pos hf, full_snoc_yes hf, wl, part_ne hf (Nat.le_refl _)]
    simp
  · rw [if_neg hf]
    have e : (cut b l.length).2 = l.length := by omega
    rw [e, part_self]
    simp [wl]
theorem wl_word (p : α → Bool) (w r : List α) (hw : ∀ c ∈ w, p c = false) (acc : List α) : wl p acc (w ++ r) = wl p (acc ++ w) r := by
  induction w generalizing acc with
  | nil => simp
  | cons c w ih =>
    rw [List.cons_append, wl, if_neg (by rw [hw c (by simp)]; simp), ih (fun d hd => hw d (by simp [hd]))]
    simp
theorem wl_blanks (p : α → Bool) (s r : List α) (hs : ∀ c ∈ s, p c = true) : wl p [] (s ++ r) = wl p [] r := by
  induction s with
  | nil => rfl
  | cons c s ih =>
    rw [List.cons_append, wl, if_pos (hs c (by simp)), ih (fun d hd => hs d (by simp [hd]))]
    simp
theorem wl_sep (p : α → Bool) (s r : List α) (hs : ∀ c ∈ s, p c = true) (ne : s ≠ []) (acc : List α) (ha : acc.isEmpty = false) : wl p acc (s ++ r) = acc :: wl p [] r := by
  cases s with
  | nil => exact (ne rfl).elim
  | cons c s =>
    rw [List.cons_append, wl, if_pos (hs c (by simp)), ha, wl_blanks p s r (fun d hd => hs d (by simp [hd]))]
    simp
/-- texts, one behind the other, with sep between two of them -/
def joinL (sep : List α) : List (List α) → List α
  | [] => []
  | [w] => w
  | w :: v :: r => w ++ (sep ++ joinL sep (v :: r))
theorem wl_join (p : α → Bool) (sep : List α) (hs : ∀ c ∈ sep, p c = true) (ne : sep ≠ []) : ∀ ws : List (List α), (∀ w ∈ ws, w.isEmpty = false ∧ ∀ c ∈ w, p c = false) → wl p [] (joinL sep ws) = ws
  | [], _ => by simp [joinL, wl]
  | [w], h => by
    have q := h w (by simp)
    have e := wl_word p w [] q.2 []
    rw [List.append_nil] at e
    rw [joinL, e, wl, List.nil_append, q.1]
    simp
  | w :: v :: r, h => by
    have q := h w (by simp)
    rw [joinL, wl_word p w _ q.2, List.nil_append, wl_sep p sep _ hs ne w q.1, wl_join p sep hs ne (v :: r) (fun u hu => h u (by simp [hu]))]
theorem joinL_len (sep : List α) : ∀ ws : List (List α), (joinL sep ws).length ≤ (ws.map List.length).sum + ws.length * sep.length
  | [] => by simp [joinL]
  | [w] => by simp [joinL]
  | w :: v :: r => by
    have := joinL_len sep (v :: r)
    simp only [joinL, List.length_append, List.map_cons, List.sum_cons, List.length_cons, Nat.add_mul] at this ⊢
    omega

/-! lines, put together again -/
theorem lines_cut (l : List α) (e : α) (b : Nat → Bool) (hb : ∀ k (h : k < l.length), b k = true → l[k] = e) (k : Nat) (hk : k ≤ l.length) :
    ((cut b k).1.flatMap fun x => part l x ++ [e]) = l.take (cut b k).2 := by
  induction k with
  | zero => simp [cut]
  | succ k ih =>
    have hk' : k < l.length := by omega
    have fk := (known b k).fk
    by_cases c : b k = true
    · rw [cut_yes c]
      simp only [List.flatMap_append, List.flatMap_cons, List.flatMap_nil, List.append_nil]
      rw [ih (by omega), List.take_succ_eq_append_getElem hk', hb k hk' c, ← List.append_assoc]
      congr 1
      unfold part
      simp only
      have := List.take_append_drop (cut b k).2 (l.take k)
      rw [List.take_take, Nat.min_eq_left fk] at this
      exact this
    · rw [cut_no (by simpa using c)]
      exact ih (by omega)
/-- the lines, each with a line feed: the text where it is empty or ends with one, else the text with one behind it -/
theorem lines_back (l : List α) (e : α) (b : Nat → Bool) (hb : ∀ k (h : k < l.length), b k = true → l[k] = e) :
    ((pcs b l.length).flatMap fun x => part l x ++ [e]) = if (cut b l.length).2 < l.length then l ++ [e] else l := by
  have fk := (known b l.length).fk
  unfold pcs
  rw [List.flatMap_append, lines_cut l e b hb l.length (Nat.le_refl _)]
  by_cases hf : (cut b l.length).2 < l.length
  · rw [if_pos hf, if_pos hf]
    simp only [List.flatMap_cons, List.flatMap_nil, List.append_nil]
    rw [← List.append_assoc]
    congr 1
    unfold part
    simp only [List.take_length]
    exact List.take_append_drop _ _
  · rw [if_neg hf, if_neg hf]
    have e : (cut b l.length).2 = l.length := by omega
    simp [e]
end
/-- nothing is left behind the last separating byte just where the bytes end with one, or are none -/
theorem rest_iff (b : Nat → Bool) (n : Nat) : (cut b n).2 < n ↔ ¬ (n = 0 ∨ (0 < n ∧ b (n - 1) = true)) := by
  have K := known b n
  constructor
  · intro h
    have := K.no (n - 1) (by omega) (by omega)
    rw [this]
    simp
    omega
  · intro h
    have fk := K.fk
    rcases Nat.lt_or_ge (cut b n).2 n with c | c
    · exact c
    · exfalso
      have e : (cut b n).2 = n := by omega
      by_cases hn : n = 0
      · exact h (.inl hn)
      · have ne : (cut b n).1 ≠ [] := fun q => by have := K.first q; omega
        have hl := K.last ne
        rw [List.getLast_eq_getElem] at hl
        have hp : 0 < (cut b n).1.length := List.length_pos_iff.2 ne
        have q := (K.at_ ((cut b n).1.length - 1) (by omega)).2.2.1
        refine h (.inr ⟨by omega, ?_⟩)
        have : n - 1 = ((cut b n).1[(cut b n).1.length - 1]).2 := by omega
        rw [this]
        exact q
end Go.Proofs.YtjlipkklljjdjaaDoor.Lex
