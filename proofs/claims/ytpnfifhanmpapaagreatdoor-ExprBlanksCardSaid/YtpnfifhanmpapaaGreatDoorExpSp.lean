/- strings.Split at a blank: its contract; what it gives for words that are joined by blanks. -/
import Derived.Test.YtpnfifhanmpapaaGreatDoorMExpA
import Derived.Test.YtpnfifhanmpapaaGreatDoorExpSi
import Derived.Shelf.Strings.Split
import Derived.Lib.SplitLaws
namespace Go.Proofs.YtpnfifhanmpapaaGreatDoor
open Go.ChangeShapes Go.WideShapes Go.RowKit Go.Shelf

theorem idx_word : ∀ (l r : List UInt8), (∀ c ∈ l, c ≠ 32) → Lib.indexByte (l ++ 32 :: r) 32 = (l.length : Nat)
  | [], r, _ => by simp [Lib.indexByte]
  | c :: l, r, h => by
    have ih := idx_word l r fun c hc => h c (by simp [hc])
    have n : (c == 32) = false := by simpa using h c (by simp)
    rw [List.cons_append, Lib.indexByte, n, ih]
    have : ((l.length : Int) == -1) = false := by rw [beq_eq_false_iff_ne]; omega
    rw [this]
    simp
theorem joinL_two (w v : List UInt8) (r : List (List UInt8)) : Lex.joinL [32] (w :: v :: r) = w ++ 32 :: Lex.joinL [32] (v :: r) := by simp [Lex.joinL]
theorem split_join : ∀ (ws : List (List UInt8)), ws ≠ [] → (∀ t ∈ ws, ∀ c ∈ t, c ≠ 32) → Lib.splitK [32] 0 (ws.length - 1) (Lex.joinL [32] ws) = ws
  | [], h, _ => absurd rfl h
  | [w], _, _ => by simp [Lib.splitK, Lex.joinL]
  | w :: v :: r, _, h => by
    have ih := split_join (v :: r) (by simp) fun t ht => h t (by simp [ht])
    have e : (w :: v :: r).length - 1 = (v :: r).length - 1 + 1 := by simp
    rw [e, joinL_two, Lib.splitK, Lib.index_one, idx_word w _ (h w (by simp))]
    have n : ((w.length : Int) == -1) = false := by rw [beq_eq_false_iff_ne]; omega
    rw [n, if_neg (by simp)]
    have d : (w ++ 32 :: Lex.joinL [32] (v :: r)).drop (w.length + 1) = Lex.joinL [32] (v :: r) := by
      rw [← List.drop_drop, List.drop_left]
      rfl
    simp only [Int.toNat_natCast, Nat.add_zero, List.length_cons, List.length_nil, Nat.zero_add]
    rw [d]
    rw [List.take_left]
    exact congrArg _ ih
theorem count_none (l : List UInt8) (h : ∀ c ∈ l, c ≠ 32) : l.count 32 = 0 := List.count_eq_zero.2 fun hm => h 32 hm rfl
theorem count_join : ∀ (ws : List (List UInt8)), ws ≠ [] → (∀ t ∈ ws, ∀ c ∈ t, c ≠ 32) → (Lex.joinL [32] ws).count 32 = ws.length - 1
  | [], h, _ => absurd rfl h
  | [w], _, h => by simp [Lex.joinL, count_none w (h w (by simp))]
  | w :: v :: r, _, h => by
    have ih := count_join (v :: r) (by simp) fun t ht => h t (by simp [ht])
    rw [joinL_two, List.count_append, count_none w (h w (by simp)), List.count_cons, ih]
    simp
theorem not_bl {t : List UInt8} (h : ∀ c ∈ t, Exp.isBl c = false) : ∀ c ∈ t, c ≠ 32 := fun c hc e => by
  have := h c hc
  rw [e] at this
  cases this

set_option maxRecDepth 100000 in
set_option maxHeartbeats 4000000 in
theorem split_blank (s : ByteArray) (hs : s.size < 4294967281) (w : World) :
    Calls Tryz.prog 26 #[.string s, .string ⟨#[32]⟩] w fun e w' => e = .returned (.slice (some ⟨w.heap.size, 0, none⟩) (s.data.toList.count 32 + 1) (s.data.toList.count 32 + 1)) ∧ w' = w.alloc (.cells ((Lib.splitB ⟨#[32]⟩ 0 (s.data.toList.count 32) s).map Value.string).toArray 9) := by
  have e1 : Lib.countB s ⟨#[32]⟩ = s.data.toList.count 32 := Lib.count_one 32 s.data.toList
  obtain ⟨n, hn⟩ : ∃ n, s.data.toList.count 32 = n := ⟨_, rfl⟩
  have hle : n ≤ s.size := by rw [← hn, Lib.size_eq]; exact List.count_le_length
  have hlen := Lib.splitB_all ⟨#[32]⟩ (by decide) 0 _ s rfl
  rw [e1, hn] at hlen
  have c := Any.strings_genSplit_core Tryz.lays221 (by kernel_rfl) s ⟨#[32]⟩ 0 (-1) (n + 1) w hs (by decide) (by decide)
    (fun x c _ => (Tryz.strings_Index_one x 32 _).mono fun e w' ⟨h1, h2⟩ => ⟨by rw [h1, ← Lib.index_one], h2⟩)
    ((Tryz.strings_Count_one s 32 w).mono fun e w' ⟨h1, h2⟩ => ⟨by rw [h1, e1]; rfl, h2⟩) (by decide) (by decide)
    (by rw [if_pos (by decide), e1, hn]; omega)
  rw [Nat.add_sub_cancel, hlen] at c
  have e2 : Lib.cellsOf (Lib.splitB ⟨#[32]⟩ 0 n s) (n + 1) = ((Lib.splitB ⟨#[32]⟩ 0 n s).map Value.string).toArray := by rw [← hlen]; exact Lib.cellsOf_full _
  rw [e2] at c
  rw [hn]
  have C := Lib.hid c
  clear c e1 hn hle hlen e2
  go_enter Tryz.func26, Tryz.ntmps26
  go_wp2_with fail
  refine C.out.mono ?_
  rintro e' w1 ⟨rfl, rfl⟩
  go_wp2_with fail
  go_ret
  exact ⟨rfl, rfl⟩
theorem strs_of (bs : List ByteArray) (ws : List (List UInt8)) (h : bs.map (·.data.toList) = ws) : bs.map Value.string = ws.map fun l => Value.string ⟨l.toArray⟩ := by
  subst h
  rw [List.map_map]
  exact List.map_congr_left fun _ _ => rfl
/-- words in memory, as Split leaves them -/
def strV (ws : List (List UInt8)) : Array Value := (ws.map fun l => Value.string ⟨l.toArray⟩).toArray
theorem split_words (T : ByteArray) (hs : T.size ≤ 1000000) (ws : List (List UInt8)) (hne : ws ≠ []) (hno : ∀ t ∈ ws, ∀ c ∈ t, c ≠ 32) (hT : T.data.toList = Lex.joinL [32] ws) (w : World) :
    Calls Tryz.prog 26 #[.string T, .string ⟨#[32]⟩] w fun e w' => e = .returned (.slice (some ⟨w.heap.size, 0, none⟩) ws.length ws.length) ∧ w' = w.alloc (.cells (strV ws) 9) := by
  refine (split_blank T (by omega) w).mono fun e w' ⟨h1, h2⟩ => ?_
  have l1 : 1 ≤ ws.length := List.length_pos_iff.2 hne
  have k : T.data.toList.count 32 = ws.length - 1 := by rw [hT]; exact count_join ws hne hno
  have d := Lib.splitB_data ⟨#[32]⟩ 0 (ws.length - 1) T
  rw [hT, split_join ws hne hno] at d
  rw [k] at h1 h2
  refine ⟨by rw [h1, Nat.sub_add_cancel l1], ?_⟩
  rw [h2]
  rw [strs_of _ ws d]
  rfl
end Go.Proofs.YtpnfifhanmpapaaGreatDoor
