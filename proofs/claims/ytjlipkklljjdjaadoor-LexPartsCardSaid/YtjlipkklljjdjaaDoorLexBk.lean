/- What the statement on the lines put together again wants. -/
import Derived.Test.YtjlipkklljjdjaaDoorLexStr
namespace Go.Proofs.YtjlipkklljjdjaaDoor
open Go.ChangeShapes Go.RowKit Go.Shelf

/-- a line feed -/
def lfS : ByteArray := ⟨#[10]⟩
/-- the first k pieces, each with a line feed -/
def tx (s : ByteArray) (l : List (Nat × Nat)) (k : Nat) : List ByteArray := (l.take k).flatMap fun x => [s.extract x.1 x.2, lfS]
theorem tx_zero (s : ByteArray) (l : List (Nat × Nat)) : tx s l 0 = [] := by simp [tx]
theorem tx_succ (s : ByteArray) (l : List (Nat × Nat)) (k : Nat) (h : k < l.length) : tx s l (k + 1) = tx s l k ++ [s.extract l[k].1 l[k].2, lfS] := by
  unfold tx
  rw [List.take_succ_eq_append_getElem h, List.flatMap_append]
  simp
theorem tx_len (s : ByteArray) (l : List (Nat × Nat)) (k : Nat) (h : k ≤ l.length) : (tx s l k).length = 2 * k := by
  induction k with
  | zero => simp [tx]
  | succ k ih => rw [tx_succ s l k (by omega), List.length_append, ih (by omega)]; simp; omega
theorem tx_small (s : ByteArray) (l : List (Nat × Nat)) (k n : Nat) (hs : s.size ≤ n) (hn : 1 ≤ n) : ∀ x ∈ tx s l k, x.size ≤ n := by
  intro x hx
  unfold tx at hx
  obtain ⟨y, _, hy⟩ := List.mem_flatMap.1 hx
  rcases List.mem_cons.1 hy with rfl | hy
  · rw [ByteArray.size_extract]; omega
  · obtain rfl : x = lfS := by simpa using hy
    have : lfS.size = 1 := rfl
    omega
theorem ext_part (s : ByteArray) (x : Nat × Nat) : (s.extract x.1 x.2).data.toList = Lex.part s.data.toList x := by
  rw [Lib.extract_data]
  unfold Lex.part
  rw [List.drop_take]
theorem join_empty (xs : List (List UInt8)) : Lib.join xs [] = xs.flatten := by
  cases xs with
  | nil => rfl
  | cons x r =>
    rw [Lib.join_cons]
    unfold Lib.joinTail
    have e : ((fun y : List UInt8 => [] ++ y)) = id := by funext y; simp
    rw [e, List.map_id, List.flatten_cons]
theorem tx_join (s : ByteArray) (l : List (Nat × Nat)) : Lib.join (bytesL (tx s l l.length)) (⟨#[]⟩ : ByteArray).data.toList = l.flatMap fun x => Lex.part s.data.toList x ++ [10] := by
  rw [show (⟨#[]⟩ : ByteArray).data.toList = [] from rfl, join_empty]
  unfold tx bytesL
  rw [List.take_length]
  induction l with
  | nil => rfl
  | cons x r ih =>
    simp only [List.flatMap_cons, List.map_append, List.flatten_append, List.map_cons, List.map_nil, List.flatten_cons, List.flatten_nil, List.append_nil]
    rw [ih, ext_part]
    rfl
theorem nl_byte (s : ByteArray) (k : Nat) (h : k < s.data.toList.length) (hb : sepAt nlB s k = true) : s.data.toList[k] = 10 := by
  rw [sep_list s k h] at hb
  simpa using hb
/-- the text that the lines make again -/
def backOf (s : ByteArray) : ByteArray := if (Lex.cut (sepAt nlB s) s.size).2 < s.size then s ++ lfS else s
theorem back_list (s : ByteArray) : (backOf s).data.toList = (pcsOf nlB s).flatMap fun x => Lex.part s.data.toList x ++ [10] := by
  have h := Lex.lines_back s.data.toList 10 (sepAt nlB s) (nl_byte s)
  rw [← Lib.size_eq] at h
  unfold pcsOf
  rw [h]
  unfold backOf
  split
  · simp [lfS]
  · rfl
theorem back_join (s : ByteArray) (hs : s.size ≤ 5000) : JoinIs (tx s (pcsOf nlB s) (pcsOf nlB s).length) ⟨#[]⟩ (backOf s) 0 := by
  have hl : (backOf s).data.toList.length ≤ 65536 := by
    rw [← Lib.size_eq]
    unfold backOf
    split
    · rw [ByteArray.size_append]; have : lfS.size = 1 := rfl; omega
    · omega
  refine .inl ⟨?_, ?_, rfl⟩
  · rw [tx_join, ← back_list]; exact hl
  · rw [tx_join, back_list]
theorem suffix_lf (s : ByteArray) (h : 0 < s.size) : Lib.hasSuffix s.data.toList [10] = sepAt nlB s (s.size - 1) := by
  have hl : s.size - 1 < s.data.toList.length := by rw [← Lib.size_eq]; omega
  rw [sep_list s _ hl, Bool.eq_iff_iff]
  unfold Lib.hasSuffix
  rw [List.isSuffixOf_iff_suffix, beq_iff_eq]
  constructor
  · rintro ⟨t, ht⟩
    have e : t.length = s.size - 1 := by have := congrArg List.length ht; rw [← Lib.size_eq] at this; simp at this; omega
    have : s.data.toList[s.size - 1]? = some 10 := by rw [← ht, List.getElem?_append_right (by omega), e]; simp
    rw [List.getElem?_eq_getElem hl] at this
    exact Option.some.inj this
  · intro e
    refine ⟨s.data.toList.take (s.size - 1), ?_⟩
    have h1 := List.take_succ_eq_append_getElem hl
    rw [e] at h1
    rw [← h1, List.take_of_length_le (by rw [← Lib.size_eq]; omega)]
/-- with a line feed behind it or not: what the test of the statement asks -/
theorem back_yes (s : ByteArray) (h : s.size = 0 ∨ Lib.hasSuffix s.data.toList [10] = true) : backOf s = s := by
  unfold backOf
  rw [if_neg]
  rw [Lex.rest_iff]
  intro q
  apply q
  rcases Nat.eq_zero_or_pos s.size with a | a
  · exact .inl a
  · refine .inr ⟨a, ?_⟩
    rcases h with h | h
    · omega
    · rw [← suffix_lf s a]; exact h
theorem back_no (s : ByteArray) (h : 0 < s.size) (hf : Lib.hasSuffix s.data.toList [10] = false) : backOf s = s ++ lfS := by
  unfold backOf
  rw [if_pos]
  rw [Lex.rest_iff]
  rintro (a | ⟨_, a⟩)
  · omega
  · rw [← suffix_lf s h, hf] at a; cases a
theorem lastB_start (b : Nat → Bool) (f : Nat) (h : f = 0 ∨ b (f - 1) = true) : lastB b f = f := by
  rcases Nat.eq_zero_or_pos f with rfl | a
  · rfl
  · obtain ⟨j, rfl⟩ : ∃ j, f = j + 1 := ⟨f - 1, by omega⟩
    rcases h with h | h
    · omega
    · exact lastB_yes h
theorem place_line (s : ByteArray) (k : Nat) (h : k < (pcsOf nlB s).length) : PlaceIs s ((pcsOf nlB s)[k].1 : Nat) ((k : Int) + 1) 1 0 := by
  have P := Lex.piece (sepAt nlB s) s.size k h
  have hl : lastB (sepAt nlB s) (pcsOf nlB s)[k].1 = (pcsOf nlB s)[k].1 := by
    apply lastB_start
    rcases Nat.eq_zero_or_pos k with rfl | a
    · exact .inl (Lex.pcs_zero _ _ h)
    · obtain ⟨j, rfl⟩ : ∃ j, k = j + 1 := ⟨k - 1, by omega⟩
      have hn := Lex.pcs_next (sepAt nlB s) s.size j h
      have hj : j < (Lex.pcs (sepAt nlB s) s.size).length := Nat.lt_of_succ_lt h
      have Q := Lex.piece (sepAt nlB s) s.size j hj
      right
      have e1 : (pcsOf nlB s)[j + 1].1 = (Lex.pcs (sepAt nlB s) s.size)[j].2 + 1 := hn
      have e2 : (pcsOf nlB s)[j + 1].1 ≤ (pcsOf nlB s)[j + 1].2 := P.le
      have e3 : (pcsOf nlB s)[j + 1].2 ≤ s.size := P.top
      rw [e1, Nat.add_sub_cancel]
      exact Q.ends (by omega)
  refine .inl ⟨_, rfl, Nat.le_trans P.le P.top, ?_, ?_, rfl⟩
  · have := P.cntb
    rw [show Lex.cnt (sepAt nlB s) (pcsOf nlB s)[k].1 = k from this]
    simp
  · rw [hl]
    simp
theorem no_lf (s : ByteArray) (k : Nat) (h : k < (pcsOf nlB s).length) : decide (0 ≤ Lib.indexByte (s.extract (pcsOf nlB s)[k].1 (pcsOf nlB s)[k].2).data.toList 10) = false := by
  have P := Lex.piece (sepAt nlB s) s.size k h
  rw [idx_no]
  · rfl
  · intro j hj
    rw [ext_part] at hj
    unfold Lex.part at hj
    rw [List.getElem?_drop, List.getElem?_take] at hj
    split at hj
    · have hlt : (pcsOf nlB s)[k].1 + j < s.data.toList.length := (List.getElem?_eq_some_iff.1 hj).1
      have h2 := P.no ((pcsOf nlB s)[k].1 + j) (by show (pcsOf nlB s)[k].1 ≤ _; omega) ‹_›
      rw [sep_list s _ hlt] at h2
      rw [List.getElem?_eq_getElem hlt] at hj
      rw [Option.some.inj hj] at h2
      simp at h2
    · cases hj
/-- where the k-th line begins -/
def startOf (l : List (Nat × Nat)) : Nat → Nat
  | 0 => 0
  | k + 1 => (l.getD k (0, 0)).2 + 1
theorem start_at (s : ByteArray) (k : Nat) (h : k < (pcsOf nlB s).length) : startOf (pcsOf nlB s) k = (pcsOf nlB s)[k].1 := by
  cases k with
  | zero => exact (Lex.pcs_zero _ _ h).symm
  | succ k =>
    have hn := Lex.pcs_next (sepAt nlB s) s.size k h
    show ((pcsOf nlB s).getD k (0, 0)).2 + 1 = _
    rw [List.getD_eq_getElem?_getD, List.getElem?_eq_getElem (by omega)]
    exact hn.symm
theorem start_next (l : List (Nat × Nat)) (k : Nat) (h : k < l.length) : startOf l (k + 1) = l[k].2 + 1 := by
  show (l.getD k (0, 0)).2 + 1 = _
  rw [List.getD_eq_getElem?_getD, List.getElem?_eq_getElem h]
  rfl
end Go.Proofs.YtjlipkklljjdjaaDoor
