/- Contracts of read and number: the number that decimal digits say. -/
import Derived.Test.YtjffnjoeeclckaaDoorCivE
import Derived.Test.YtjffnjoeeclckaaDoorShelf
import Derived.Lib.Atoi
import Derived.Lib.AtoiErrMem
namespace Go.Proofs.YtjffnjoeeclckaaDoor
open Go.ChangeShapes Go.RowKit

def numL (l : List UInt8) : Int := l.foldl (fun n b => 10 * n + ((b.toNat : Int) - 48)) 0
def Dig (l : List UInt8) : Prop := ∀ b ∈ l, 48 ≤ b.toNat ∧ b.toNat ≤ 57
theorem numL_snoc (l : List UInt8) (b : UInt8) : numL (l ++ [b]) = 10 * numL l + ((b.toNat : Int) - 48) := by simp [numL]
theorem decFrom_num : ∀ (l : List UInt8) (acc : Nat), Dig l → ∃ n : Nat, Lib.decFrom acc l = some n ∧ (n : Int) = l.foldl (fun n b => 10 * n + ((b.toNat : Int) - 48)) (acc : Int)
  | [], acc, _ => ⟨acc, rfl, rfl⟩
  | b :: l, acc, h => by
    obtain ⟨h0, h1⟩ := h b (by simp)
    have hd : Lib.digitVal b = some (b.toNat - 48) := by unfold Lib.digitVal; rw [if_pos ⟨h0, h1⟩]
    obtain ⟨n, hn, he⟩ := decFrom_num l (acc * 10 + (b.toNat - 48)) (fun c hc => h c (by simp [hc]))
    refine ⟨n, by simp only [Lib.decFrom, hd]; exact hn, ?_⟩
    rw [he]
    simp only [List.foldl_cons]
    congr 1
    omega
theorem atoi_num (l : List UInt8) (h : Dig l) (h0 : l ≠ []) : Lib.atoi l = some (numL l) := by
  obtain ⟨n, hn, he⟩ := decFrom_num l 0 h
  cases l with
  | nil => exact absurd rfl h0
  | cons b r =>
    obtain ⟨b0, b1⟩ := h b (by simp)
    have e1 : (b == 45) = false := by
      rw [beq_eq_false_iff_ne]; rintro rfl; revert b0; decide
    have e2 : (b == 43) = false := by
      rw [beq_eq_false_iff_ne]; rintro rfl; revert b0; decide
    unfold Lib.atoi Lib.decNat
    simp only [e1, e2, Bool.false_eq_true, if_false, List.isEmpty_cons, hn, Option.map_some]
    rw [he]; rfl
theorem numL_bd : ∀ (k : Nat) (l : List UInt8), Dig l → l.length = k → 0 ≤ numL l ∧ numL l < 10 ^ k
  | 0, l, _, h => by
    obtain rfl : l = [] := List.length_eq_zero_iff.1 h
    simp [numL]
  | k + 1, l, hd, h => by
    have hne : l ≠ [] := by intro e; rw [e] at h; simp at h
    obtain ⟨i0, i1⟩ := numL_bd k l.dropLast (fun b hb => hd b (List.dropLast_subset l hb)) (by simp [h])
    obtain ⟨b0, b1⟩ := hd (l.getLast hne) (List.getLast_mem hne)
    rw [← List.dropLast_concat_getLast hne, numL_snoc]
    have : (10 : Int) ^ (k + 1) = 10 * 10 ^ k := by rw [Int.pow_succ]; omega
    omega
def numS (x : ByteArray) : Int := numL x.data.toList
theorem take_snoc (s : ByteArray) (k : Nat) (h : k < s.size) : s.data.toList.take (k + 1) = s.data.toList.take k ++ [s[k]] := by
  rw [List.take_succ_eq_append_getElem (by simpa using h)]; rfl

theorem size_list (x : ByteArray) : x.data.toList.length = x.size := Array.length_toList
theorem list_ne (x : ByteArray) (h : 0 < x.size) : x.data.toList ≠ [] := by
  intro e
  have := size_list x
  rw [e, List.length_nil] at this
  omega
theorem read_any (x : ByteArray) (w : World) (hd : Dig x.data.toList) (h0 : 0 < x.size) (h1 : x.size ≤ 18) :
    Calls Tryd.prog 44 #[.string x] w fun e w' => e = .returned (.int .i64 (numS x)) ∧ Below w.heap.size w w' := by
  have C := Lib.hid (Tryd.strconv_Atoi x (numS x) h1 (atoi_num _ hd (list_ne x h0)) w)
  clear hd
  go_enter Tryd.func44, Tryd.ntmps44
  go_wp2_with fail
  refine C.out.mono ?_
  rintro e w1 ⟨rfl, t, rfl⟩
  have hb := Lib.hid (Lib.bytesWorld_below w 5 t)
  go_wp2_with fail
  go_ret
  exact ⟨rfl, hb.out⟩

set_option maxHeartbeats 400000 in
theorem number_any (x : ByteArray) (w : World) (hd : Dig x.data.toList) (h1 : x.size ≤ 4) :
    Calls Tryd.prog 45 #[.string x] w fun e w' => e = .returned (.int .i64 (numS x)) ∧ w = w' := by
  have hsz := size_list x
  have HD := Lib.hid hd
  have HS := Lib.hid hsz
  clear hd hsz
  go_enter Tryd.func45, Tryd.ntmps45
  go_wp2
  go_loop [3, 4] (fun n i => ∃ k : Nat, k ≤ x.size ∧ i = .int .i64 k ∧ n = .int .i64 (numL (x.data.toList.take k))) (fun _ i => x.size - (intOf i).toNat)
  case atStart => exact ⟨0, Nat.zero_le _, rfl, rfl⟩
  case round =>
    obtain ⟨k, hk, rfl, rfl⟩ := hrel
    obtain ⟨n0, n1⟩ := numL_bd k (x.data.toList.take k) (fun b hb => HD.out b (List.take_subset _ _ hb)) (by rw [List.length_take, HS.out]; omega)
    have n2 : numL (x.data.toList.take k) < 10000 := by
      refine Int.lt_of_lt_of_le n1 ?_
      have : k = 0 ∨ k = 1 ∨ k = 2 ∨ k = 3 ∨ k = 4 := by omega
      rcases this with rfl | rfl | rfl | rfl | rfl <;> decide
    clear n1
    by_cases hlt : k < x.size
    · obtain ⟨b0, b1⟩ := HD.out x[k] (by have : x[k] = x.data.toList[k]'(by rw [HS.out]; exact hlt) := rfl
                                         rw [this]; exact List.getElem_mem _)
      have S := Lib.hid (show numL (x.data.toList.take (k + 1)) = 10 * numL (x.data.toList.take k) + ((x[k].toNat : Int) - 48) by rw [take_snoc x k hlt, numL_snoc])
      go_wp2
      go_round
      case rel => exact ⟨k + 1, by omega, by go_num, by rw [S.out]⟩
      case measure => simp [intOf]; omega
    · go_wp2
      go_ret
      exact ⟨ret_int (by unfold numS; rw [List.take_of_length_le (by rw [HS.out]; omega)]), rfl⟩
end Go.Proofs.YtjffnjoeeclckaaDoor
