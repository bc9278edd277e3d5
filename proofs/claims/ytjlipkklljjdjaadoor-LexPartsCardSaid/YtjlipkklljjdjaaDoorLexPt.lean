/- Plain facts for LexParts: where the words of a text stand, what lies around them, and the words of words that are joined with blanks. -/
import Derived.Test.YtjlipkklljjdjaaDoorLexRn
import Derived.Test.YtjlipkklljjdjaaDoorLexBk
namespace Go.Proofs.YtjlipkklljjdjaaDoor
open Go.ChangeShapes Go.RowKit Go.Shelf

/-- the words' places -/
def wsOf (s : ByteArray) : List (Nat × Nat) := Lex.full (pcsOf blB s)
/-- the texts of the first k words -/
def wt (s : ByteArray) (l : List (Nat × Nat)) (k : Nat) : List ByteArray := (l.take k).map fun x => s.extract x.1 x.2
theorem wt_zero (s : ByteArray) (l : List (Nat × Nat)) : wt s l 0 = [] := by simp [wt]
theorem wt_succ (s : ByteArray) (l : List (Nat × Nat)) (k : Nat) (h : k < l.length) : wt s l (k + 1) = wt s l k ++ [s.extract l[k].1 l[k].2] := by
  unfold wt
  rw [List.take_succ_eq_append_getElem h, List.map_append]
  rfl
theorem wt_len (s : ByteArray) (l : List (Nat × Nat)) (k : Nat) (h : k ≤ l.length) : (wt s l k).length = k := by
  simp [wt]; omega
theorem wt_at (s : ByteArray) (l : List (Nat × Nat)) (k n : Nat) (h : k < n) (hn : n ≤ l.length) : (wt s l n)[k]? = some (s.extract (l[k]'(by omega)).1 (l[k]'(by omega)).2) := by
  unfold wt
  rw [List.getElem?_map, List.getElem?_take, if_pos h, List.getElem?_eq_getElem (by omega)]
  rfl
def endOf (l : List (Nat × Nat)) (k : Nat) : Nat := Lex.ends (l.take k)
theorem endOf_zero (l : List (Nat × Nat)) : endOf l 0 = 0 := by simp [endOf, Lex.ends]
theorem endOf_succ (l : List (Nat × Nat)) (k : Nat) (h : k < l.length) : endOf l (k + 1) = l[k].2 := Lex.ends_take l k h

theorem bl_iff (s : ByteArray) (j : Nat) (b : UInt8) (h : s.data.toList[j]? = some b) : sepAt blB s j = true ↔ (b = 32 ∨ b = 9) := by
  have hj : j < s.size := by
    have := (List.getElem?_eq_some_iff.1 h).1
    rwa [← Lib.size_eq] at this
  rw [Lib.data_getElem? s j hj] at h
  obtain rfl := Option.some.inj h
  unfold sepAt blB
  rw [dif_pos hj]
  simp only [Bool.or_eq_true, beq_iff_eq]
  constructor
  · rintro (e | e)
    · exact .inl (UInt8.toNat_inj.1 e)
    · exact .inr (UInt8.toNat_inj.1 e)
  · rintro (e | e)
    · exact .inl (by rw [e]; rfl)
    · exact .inr (by rw [e]; rfl)
theorem ext_at (s : ByteArray) (f t j : Nat) (b : UInt8) (h : (s.extract f t).data.toList[j]? = some b) : s.data.toList[f + j]? = some b ∧ f + j < t := by
  rw [ext_part s (f, t)] at h
  unfold Lex.part at h
  rw [List.getElem?_drop, List.getElem?_take] at h
  split at h
  · exact ⟨h, by assumption⟩
  · cases h

structure WordIs (s : ByteArray) (k : Nat) (f : Nat) (T : ByteArray) : Prop where
  end_ : f + T.size = endOf (wsOf s) (k + 1)
  top : f + T.size ≤ s.size
  pos : 1 ≤ T.size
  ge : endOf (wsOf s) k ≤ f
  gt : 0 < k → endOf (wsOf s) k < f
  none : ∀ (j : Nat) b, T.data.toList[j]? = some b → b ≠ 32 ∧ b ≠ 9
  pre : Lib.hasPrefix (s.extract f s.size).data.toList T.data.toList = true
  gap : ∀ b ∈ (s.extract (endOf (wsOf s) k) f).data.toList, b = 32 ∨ b = 9
  next : wt s (wsOf s) (k + 1) = wt s (wsOf s) k ++ [T]
  at0 : (flatW s (wsOf s))[k * 2]? = some (.int .i64 f)
  at1 : (flatW s (wsOf s))[k * 2 + 1]? = some (.string T)

theorem word_is (s : ByteArray) (k : Nat) (h : k < (wsOf s).length) : ∃ f T, WordIs s k f T := by
  obtain ⟨h1, h2, h3, h4, h5, h6⟩ := (Lex.pcs_words (sepAt blB s) s.size).at_ k h
  change (wsOf s)[k].1 < (wsOf s)[k].2 at h1
  change (wsOf s)[k].2 ≤ s.size at h2
  change endOf (wsOf s) k ≤ (wsOf s)[k].1 at h3
  change 0 < k → endOf (wsOf s) k < (wsOf s)[k].1 at h4
  change ∀ j, (wsOf s)[k].1 ≤ j → j < (wsOf s)[k].2 → sepAt blB s j = false at h5
  change ∀ j, endOf (wsOf s) k ≤ j → j < (wsOf s)[k].1 → sepAt blB s j = true at h6
  have F := flatW_at s (wsOf s) k h
  have E := endOf_succ (wsOf s) k h
  have N := wt_succ s (wsOf s) k h
  generalize (wsOf s)[k].1 = f at *
  generalize (wsOf s)[k].2 = t at *
  have hz : (s.extract f t).size = t - f := by rw [ByteArray.size_extract]; omega
  refine ⟨f, s.extract f t, by rw [hz, E]; omega, by rw [hz]; omega, by rw [hz]; omega, h3, h4, ?_, ?_, ?_, N, F.1, F.2⟩
  · intro j b hb
    obtain ⟨a, c⟩ := ext_at s f t j b hb
    have q := h5 (f + j) (by omega) c
    have i := bl_iff s (f + j) b a
    constructor
    · intro e
      rw [i.2 (.inl e)] at q
      cases q
    · intro e
      rw [i.2 (.inr e)] at q
      cases q
  · unfold Lib.hasPrefix
    rw [List.isPrefixOf_iff_prefix, ext_part s (f, t), ext_part s (f, s.size)]
    have e : Lex.part s.data.toList (f, t) = (s.data.toList.drop f).take (t - f) := List.drop_take ..
    have e2 : Lex.part s.data.toList (f, s.size) = s.data.toList.drop f := by
      unfold Lex.part
      simp only
      rw [Lib.size_eq, List.take_length]
    rw [e, e2]
    exact List.take_prefix _ _
  · intro b hb
    obtain ⟨j, hj⟩ := List.mem_iff_getElem?.1 hb
    obtain ⟨a, c⟩ := ext_at s _ _ j b hj
    exact (bl_iff s _ b a).1 (h6 _ (by omega) c)
theorem rest_blank (s : ByteArray) : ∀ b ∈ (s.extract (endOf (wsOf s) (wsOf s).length) s.size).data.toList, b = 32 ∨ b = 9 := by
  have G := (Lex.pcs_words (sepAt blB s) s.size).gap
  have e : endOf (wsOf s) (wsOf s).length = Lex.ends (Lex.full (Lex.pcs (sepAt blB s) s.size)) := by
    unfold endOf
    rw [List.take_length]
    rfl
  intro b hb
  obtain ⟨j, hj⟩ := List.mem_iff_getElem?.1 hb
  obtain ⟨a, c⟩ := ext_at s _ _ j b hj
  exact (bl_iff s _ b a).1 (G _ (by rw [e]; omega) c)
theorem rest_top (s : ByteArray) : endOf (wsOf s) (wsOf s).length ≤ s.size := by
  have e : endOf (wsOf s) (wsOf s).length = Lex.ends (Lex.full (Lex.pcs (sepAt blB s) s.size)) := by
    unfold endOf
    rw [List.take_length]
    rfl
  rw [e]
  exact (Lex.pcs_words (sepAt blB s) s.size).le

theorem join_L (sep : List UInt8) : ∀ ws : List (List UInt8), Lib.join ws sep = Lex.joinL sep ws
  | [] => rfl
  | [w] => by simp [Lib.join, Lex.joinL, List.intercalate]
  | w :: v :: r => by
    have ih := join_L sep (v :: r)
    unfold Lib.join at ih
    unfold Lib.join Lex.joinL
    rw [← ih]
    simp [List.intercalate, List.intersperse]

theorem sum_le (s : ByteArray) : ∀ k, k ≤ (wsOf s).length → ((bytesL (wt s (wsOf s) k)).map List.length).sum ≤ endOf (wsOf s) k ∧ k ≤ endOf (wsOf s) k
  | 0, _ => by rw [wt_zero]; simp [bytesL]
  | k + 1, h => by
    obtain ⟨f, T, q⟩ := word_is s k (by omega)
    have ih := sum_le s k (by omega)
    have a := q.end_
    have b := q.ge
    have c := q.pos
    rw [q.next]
    simp only [bytesL, List.map_append, List.sum_append, List.map_cons, List.map_nil, List.sum_cons, List.sum_nil] at ih ⊢
    rw [← Lib.size_eq]
    omega
def sepB (n : Nat) : ByteArray := (⟨#[32]⟩ : ByteArray) ++ ⟨(List.replicate n 9).toArray⟩
theorem sepB_list (n : Nat) : (sepB n).data.toList = 32 :: List.replicate n 9 := by
  unfold sepB
  rw [ByteArray.data_append, Array.toList_append]
  simp
theorem sepB_size (n : Nat) : (sepB n).size = n + 1 := by rw [Lib.size_eq, sepB_list]; simp
def isBl (c : UInt8) : Bool := blB c.toNat
theorem isBl_iff (c : UInt8) : isBl c = true ↔ (c = 32 ∨ c = 9) := by
  unfold isBl blB
  simp only [Bool.or_eq_true, beq_iff_eq]
  constructor
  · rintro (e | e)
    · exact .inl (UInt8.toNat_inj.1 e)
    · exact .inr (UInt8.toNat_inj.1 e)
  · rintro (e | e)
    · exact .inl (by rw [e]; rfl)
    · exact .inr (by rw [e]; rfl)
/-- every word among the first k is one of the words -/
theorem wt_word (s : ByteArray) : ∀ k, k ≤ (wsOf s).length → ∀ w ∈ bytesL (wt s (wsOf s) k), w.isEmpty = false ∧ ∀ c ∈ w, isBl c = false
  | 0, _ => by rw [wt_zero]; simp [bytesL]
  | k + 1, h => by
    obtain ⟨f, T, q⟩ := word_is s k (by omega)
    have ih := wt_word s k (by omega)
    rw [q.next]
    intro w hw
    simp only [bytesL, List.map_append, List.map_cons, List.map_nil, List.mem_append, List.mem_singleton] at hw
    rcases hw with hw | rfl
    · exact ih w hw
    · constructor
      · have := q.pos
        rw [Lib.size_eq] at this
        cases e : T.data.toList with
        | nil => rw [e] at this; simp at this
        | cons _ _ => rfl
      · intro c hc
        obtain ⟨j, hj⟩ := List.mem_iff_getElem?.1 hc
        obtain ⟨a, b⟩ := q.none j c hj
        rw [← Bool.not_eq_true, isBl_iff]
        rintro (e | e)
        · exact a e
        · exact b e
theorem wl_of (R : ByteArray) : Lex.wl isBl [] R.data.toList = (wsOf R).map (Lex.part R.data.toList) := by
  rw [Lex.wl_pcs isBl R.data.toList (sepAt blB R) (fun k h => by
    have i := bl_iff R k _ (List.getElem?_eq_getElem h)
    have i2 := isBl_iff R.data.toList[k]
    cases e : sepAt blB R k <;> cases e2 : isBl R.data.toList[k] <;> simp_all)]
  unfold wsOf pcsOf
  rw [Lib.size_eq]
theorem parts_join (s : ByteArray) (n : Nat) (hs : s.size ≤ 2000) (hn : n ≤ 19) :
    ∃ R : ByteArray, JoinIs (wt s (wsOf s) (wsOf s).length) (sepB n) R 0 ∧ R.size ≤ 65536 ∧ (wsOf R).length = (wsOf s).length ∧
      ∀ (k : Nat) T, (wt s (wsOf s) (wsOf s).length)[k]? = some T → ∃ g : Nat, (flatW R (wsOf R))[k * 2]? = some (.int .i64 g) ∧ (flatW R (wsOf R))[k * 2 + 1]? = some (.string T) := by
  have hw := wt_word s _ (Nat.le_refl _)
  have hsum := sum_le s _ (Nat.le_refl _)
  have htop := rest_top s
  have hlen := wt_len s _ _ (Nat.le_refl (wsOf s).length)
  generalize hW : wt s (wsOf s) (wsOf s).length = W at *
  generalize (wsOf s).length = N at *
  have hl : (Lib.join (bytesL W) (sepB n).data.toList).length ≤ 65536 := by
    rw [join_L]
    have a := Lex.joinL_len (sepB n).data.toList (bytesL W)
    have b : (bytesL W).length = N := by unfold bytesL; rw [List.length_map, hlen]
    have c : (sepB n).data.toList.length = n + 1 := by rw [← Lib.size_eq, sepB_size]
    rw [b, c] at a
    have d : N * (n + 1) ≤ 2000 * 20 := Nat.mul_le_mul (by omega) (by omega)
    omega
  refine ⟨⟨(Lib.join (bytesL W) (sepB n).data.toList).toArray⟩, .inl ⟨hl, rfl, rfl⟩, by rw [Lib.size_eq]; exact hl, ?_⟩
  have e := wl_of ⟨(Lib.join (bytesL W) (sepB n).data.toList).toArray⟩
  generalize hR : (⟨(Lib.join (bytesL W) (sepB n).data.toList).toArray⟩ : ByteArray) = R at *
  have hRl : R.data.toList = Lex.joinL (sepB n).data.toList (bytesL W) := by rw [← hR, ← join_L]
  rw [hRl, Lex.wl_join isBl _ (fun c hc => by
    rw [sepB_list] at hc
    rw [isBl_iff]
    rcases List.mem_cons.1 hc with h | h
    · exact .inl h
    · exact .inr (List.eq_of_mem_replicate h)) (by rw [sepB_list]; simp) (bytesL W) hw, ← hRl] at e
  have el := congrArg List.length e
  rw [List.length_map] at el
  have b : (bytesL W).length = N := by unfold bytesL; rw [List.length_map, hlen]
  refine ⟨by omega, fun k T hk => ?_⟩
  have hkN : k < N := by
    have := (List.getElem?_eq_some_iff.1 hk).1
    omega
  have F := flatW_at R (wsOf R) k (by omega)
  have ek : (bytesL W)[k]? = ((wsOf R).map (Lex.part R.data.toList))[k]? := by rw [e]
  unfold bytesL at ek
  rw [List.getElem?_map, hk, List.getElem?_map, List.getElem?_eq_getElem (by omega)] at ek
  have e3 : T = R.extract ((wsOf R)[k]'(by omega)).1 ((wsOf R)[k]'(by omega)).2 := by
    apply str_ext
    rw [ext_part]
    exact Option.some.inj ek
  exact ⟨_, F.1, by rw [e3]; exact F.2⟩
end Go.Proofs.YtjlipkklljjdjaaDoor
