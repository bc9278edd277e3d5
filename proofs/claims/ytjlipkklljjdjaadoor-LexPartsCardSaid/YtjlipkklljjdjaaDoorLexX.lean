/- What the statement on long texts wants: texts that repeat a byte, '[]byte(s)' and back, the lines of a text with one line feed. -/
import Derived.Test.YtjlipkklljjdjaaDoorLexS
import Derived.Lib.ConvBytes
import Derived.Lib.LazyBuf
namespace Go.Proofs.YtjlipkklljjdjaaDoor
open Go.ChangeShapes Go.RowKit Go.Shelf

theorem lines_long (s : ByteArray) (hs : 65536 < s.size) (hm : s.size ≤ 9223372036854775807) (w : World) :
    Calls Tryd.prog 16 #[.string s] w fun e w' => e = .returned (.tuple #[.slice none 0 0, .int .i64 11]) ∧ w = w' := by
  have t : decide ((65536 : Int) < (s.size : Int)) = true := by rw [decide_eq_true_iff]; omega
  go_enter Tryd.func16, Tryd.ntmps16
  go_wp2_with fail
  go_ret2
  exact ⟨rfl, rfl⟩
theorem rep_list (c : UInt8) (n : Nat) : Lib.repeatL [c] n = List.replicate n c := by
  induction n with
  | zero => rfl
  | succ n ih => rw [Lib.repeatL, ih, List.replicate_succ]; rfl
theorem repeat_any (c : UInt8) (n : Nat) (hn : n ≤ 140737488355328) (w : World) :
    Calls Tryd.prog 37 #[.string ⟨#[c]⟩, .int .i64 n] w fun e w' => e = .returned (.string ⟨(List.replicate n c).toArray⟩) ∧ Below w.heap.size w w' := by
  have h := Tryd.strings_Repeat ⟨#[c]⟩ n w (by omega) (by show 1 * n ≤ _; omega)
  rw [show (⟨#[c]⟩ : ByteArray).data.toList = [c] from rfl, rep_list] at h
  exact h
theorem bytes_of (X : ByteArray) (w : World) : ∃ W cap, (convert 9 59 (.string X)).run Tryd.prog w = .ok (.slice (some ⟨w.heap.size, 0, none⟩) X.size cap) W ∧ Below w.heap.size w W ∧ W.heap.size = w.heap.size + 1 ∧
    (∀ j, j < X.size → W.cell? ⟨w.heap.size, j, none⟩ = some (.int .u8 (X.data.toList.getD j 0).toNat)) ∧ (∀ j, j < X.size → W.frozen? ⟨w.heap.size, j, none⟩ = false) := by
  refine ⟨_, _, Lib.run_convert_string_bytes w 9 59 5 X Tryd.underlying9 Tryd.underlying59 Tryd.underlying5, Lib.bytesWorld_below _ _ _, Lib.bytesWorld_size _ _ _, fun j hj => Lib.bytesWorld_cell w _ X j hj, fun j hj => ?_⟩
  have hz : X.size ≤ (Lib.bytesCells w 5 X).size := by
    unfold Lib.bytesCells
    simp
  simp [World.frozen?, Lib.bytesWorld_at_new]
  omega
theorem nums_back (T : ByteArray) : strOfNums (T.data.toList.map fun b => (b.toNat : Int)) = T := by
  apply str_ext
  rw [strOfNums_data, List.map_map]
  have : ((fun n : Int => UInt8.ofNat n.toNat) ∘ fun b : UInt8 => (b.toNat : Int)) = id := by funext b; simp
  rw [this, List.map_id]
theorem string_of (g cap : Nat) (T : ByteArray) (W : World) (hc : ∀ j, j < T.size → W.cell? ⟨g, j, none⟩ = some (.int .u8 (T.data.toList.getD j 0).toNat)) :
    (convert 59 9 (.slice (some ⟨g, 0, none⟩) T.size cap)).run Tryd.prog W = .ok (.string T) W := by
  have h := run_convert_bytes_arg W 59 5 Tryd.underlying59 Tryd.underlying5 g 0 T.size cap (T.data.toList.map fun b => (b.toNat : Int)) (by rw [List.length_map, ← Lib.size_eq]) (fun i hi => by
    rw [Nat.zero_add, hc i hi]
    have hl : i < T.data.toList.length := by rw [← Lib.size_eq]; exact hi
    congr 2
    rw [List.getD_eq_getElem?_getD, List.getElem?_eq_getElem hl]
    simp [List.getElem?_eq_getElem hl]) 9 Tryd.underlying9
  rw [nums_back] at h
  exact h
/-- n times the byte c, but for a line feed at place p -/
def oneLf (c : UInt8) (n p : Nat) : ByteArray := ⟨((List.replicate n c).set p 10).toArray⟩
theorem oneLf_size (c : UInt8) (n p : Nat) : (oneLf c n p).size = n := by
  rw [Lib.size_eq]; simp [oneLf]
theorem oneLf_at (c : UInt8) (hc : c ≠ 10) (n p : Nat) (k : Nat) (hk : k < n) : sepAt nlB (oneLf c n p) k = decide (k = p) := by
  have hl : k < (oneLf c n p).data.toList.length := by rw [← Lib.size_eq, oneLf_size]; exact hk
  rw [sep_list _ _ hl]
  simp only [oneLf]
  rw [List.getElem_set]
  by_cases h : p = k
  · subst h; simp
  · have : ¬ k = p := fun e => h e.symm
    simp [h, this, hc]
theorem cnt_one (b : Nat → Bool) (n p : Nat) (hb : ∀ k, k < n → b k = decide (k = p)) : ∀ k, k ≤ n → Lex.cnt b k = if p < k then 1 else 0 := by
  intro k
  induction k with
  | zero => intro _; rfl
  | succ k ih =>
    intro hk
    have h := hb k (by omega)
    by_cases q : k = p
    · rw [Lex.cnt_yes (by rw [h]; simpa using q), ih (by omega), if_neg (by omega), if_pos (by omega)]
    · rw [Lex.cnt_no (by rw [h]; simpa using q), ih (by omega)]
      by_cases c : p < k
      · rw [if_pos c, if_pos (by omega)]
      · rw [if_neg c, if_neg (by omega)]
theorem oneLf_lines (c : UInt8) (hc : c ≠ 10) (n p : Nat) (hp : p < n) : (pcsOf nlB (oneLf c n p)).length = if p = n - 1 then 1 else 2 := by
  have hb := fun k hk => oneLf_at c hc n p k hk
  have K := Lex.known (sepAt nlB (oneLf c n p)) n
  have C := cnt_one (sepAt nlB (oneLf c n p)) n p hb n (Nat.le_refl _)
  rw [if_pos hp] at C
  have R := Lex.rest_iff (sepAt nlB (oneLf c n p)) n
  rw [hb (n - 1) (by omega)] at R
  have hl := K.len
  unfold pcsOf Lex.pcs
  rw [oneLf_size]
  by_cases q : p = n - 1
  · rw [if_neg (fun h => R.1 h (.inr ⟨by omega, by simpa using q.symm⟩)), if_pos q]
    simp; omega
  · rw [if_pos (R.2 (by rintro (h | ⟨_, h⟩); omega; exact q (of_decide_eq_true h).symm)), if_neg q]
    simp; omega
theorem back_of (g cap n p : Nat) (X : ByteArray) (W : World) (hX : X = ⟨(List.replicate n 120).toArray⟩) (hc : ∀ j, j < n → W.cell? ⟨g, j, none⟩ = some (.int .u8 (X.data.toList.getD j 0).toNat)) :
    (convert 59 9 (.slice (some ⟨g, 0, none⟩) n cap)).run Tryd.prog (W.setCell ⟨g, p, none⟩ (.int .u8 10)) = .ok (.string (oneLf 120 n p)) (W.setCell ⟨g, p, none⟩ (.int .u8 10)) := by
  have h := string_of g cap (oneLf 120 n p) (W.setCell ⟨g, p, none⟩ (.int .u8 10)) (fun j hj => by
    rw [oneLf_size] at hj
    have hl : j < ((List.replicate n (120 : UInt8)).set p 10).length := by simpa using hj
    have e : (oneLf 120 n p).data.toList.getD j 0 = if p = j then 10 else 120 := by
      simp only [oneLf]
      rw [List.getD_eq_getElem?_getD, List.getElem?_eq_getElem hl, List.getElem_set]
      simp
    rw [e]
    by_cases q : p = j
    · subst q
      rw [World.cell?_setCell_same' _ _ _ (by rw [hc p hj]; rfl), if_pos rfl]
      rfl
    · rw [World.cell?_setCell_other _ _ _ _ (by intro e; cases e; exact q rfl), hc j hj, if_neg q, hX]
      simp [List.getD_eq_getElem?_getD, hj])
  rw [oneLf_size] at h
  exact h
theorem strs_two (w : World) (a b : ByteArray) (t : TypeId) : IsStrs (w.alloc (.cells #[.string a, .string b] t)) (.slice (some ⟨w.heap.size, 0, none⟩) 2 2) [a, b] := by
  refine ⟨_, 2, rfl, Nat.le_refl _, fun _ => ⟨_, _, rfl, by simp, fun j x hj => ?_⟩⟩
  match j, hj with
  | 0, hj => simp at hj; subst hj; simp [go_sem]
  | 1, hj => simp at hj; subst hj; simp [go_sem]
theorem join_two (a b sep : ByteArray) : Lib.join (bytesL [a, b]) sep.data.toList = a.data.toList ++ (sep.data.toList ++ b.data.toList) := by
  unfold bytesL
  rw [List.map_cons, List.map_cons, List.map_nil, Lib.join_cons]
  simp [Lib.joinTail]
end Go.Proofs.YtjlipkklljjdjaaDoor
