/- Contracts of write and digits: the digits of a number, with zeros before them. -/
import Derived.Test.YtjffnjoeeclckaaDoorCivE
import Derived.StillTailTactics
import Derived.LoopN
import Derived.Laws.BytesArg
namespace Go.Proofs.YtjffnjoeeclckaaDoor
open Go.ChangeShapes Go.RowKit

theorem write_5 (b cap : Nat) (n x0 x1 : Int) (W : World) (h0 : 0 ≤ n) (h1 : n ≤ 99)
    (c0 : W.cell? ⟨b, 5, none⟩ = some (.int .u8 x0)) (c1 : W.cell? ⟨b, 6, none⟩ = some (.int .u8 x1)) (f0 : W.frozen? ⟨b, 5, none⟩ = false) (f1 : W.frozen? ⟨b, 6, none⟩ = false) :
    Calls Tryd.prog 39 #[.slice (some ⟨b, 5, none⟩) 2 cap, .int .i64 n] W fun e w' => e = .returned (.tuple #[]) ∧ w' = (W.setCell ⟨b, 6, none⟩ (.int .u8 (48 + n % 10))).setCell ⟨b, 5, none⟩ (.int .u8 (48 + n / 10 % 10)) := by
  go_enter Tryd.func39, Tryd.ntmps39
  go_wp2
  refine wp_loop_rounds 3 ?_
  rw [rounds_succ]
  go_wp2
  rw [rounds_succ]
  go_wp2
  rw [rounds_succ]
  go_wp2
  go_end0
  exact ⟨rfl, rfl⟩
theorem write_8 (b cap : Nat) (n x0 x1 : Int) (W : World) (h0 : 0 ≤ n) (h1 : n ≤ 99)
    (c0 : W.cell? ⟨b, 8, none⟩ = some (.int .u8 x0)) (c1 : W.cell? ⟨b, 9, none⟩ = some (.int .u8 x1)) (f0 : W.frozen? ⟨b, 8, none⟩ = false) (f1 : W.frozen? ⟨b, 9, none⟩ = false) :
    Calls Tryd.prog 39 #[.slice (some ⟨b, 8, none⟩) 2 cap, .int .i64 n] W fun e w' => e = .returned (.tuple #[]) ∧ w' = (W.setCell ⟨b, 9, none⟩ (.int .u8 (48 + n % 10))).setCell ⟨b, 8, none⟩ (.int .u8 (48 + n / 10 % 10)) := by
  go_enter Tryd.func39, Tryd.ntmps39
  go_wp2
  refine wp_loop_rounds 3 ?_
  rw [rounds_succ]
  go_wp2
  rw [rounds_succ]
  go_wp2
  rw [rounds_succ]
  go_wp2
  go_end0
  exact ⟨rfl, rfl⟩
theorem write_11 (b cap : Nat) (n x0 x1 : Int) (W : World) (h0 : 0 ≤ n) (h1 : n ≤ 99)
    (c0 : W.cell? ⟨b, 11, none⟩ = some (.int .u8 x0)) (c1 : W.cell? ⟨b, 12, none⟩ = some (.int .u8 x1)) (f0 : W.frozen? ⟨b, 11, none⟩ = false) (f1 : W.frozen? ⟨b, 12, none⟩ = false) :
    Calls Tryd.prog 39 #[.slice (some ⟨b, 11, none⟩) 2 cap, .int .i64 n] W fun e w' => e = .returned (.tuple #[]) ∧ w' = (W.setCell ⟨b, 12, none⟩ (.int .u8 (48 + n % 10))).setCell ⟨b, 11, none⟩ (.int .u8 (48 + n / 10 % 10)) := by
  go_enter Tryd.func39, Tryd.ntmps39
  go_wp2
  refine wp_loop_rounds 3 ?_
  rw [rounds_succ]
  go_wp2
  rw [rounds_succ]
  go_wp2
  rw [rounds_succ]
  go_wp2
  go_end0
  exact ⟨rfl, rfl⟩
theorem write_14 (b cap : Nat) (n x0 x1 : Int) (W : World) (h0 : 0 ≤ n) (h1 : n ≤ 99)
    (c0 : W.cell? ⟨b, 14, none⟩ = some (.int .u8 x0)) (c1 : W.cell? ⟨b, 15, none⟩ = some (.int .u8 x1)) (f0 : W.frozen? ⟨b, 14, none⟩ = false) (f1 : W.frozen? ⟨b, 15, none⟩ = false) :
    Calls Tryd.prog 39 #[.slice (some ⟨b, 14, none⟩) 2 cap, .int .i64 n] W fun e w' => e = .returned (.tuple #[]) ∧ w' = (W.setCell ⟨b, 15, none⟩ (.int .u8 (48 + n % 10))).setCell ⟨b, 14, none⟩ (.int .u8 (48 + n / 10 % 10)) := by
  go_enter Tryd.func39, Tryd.ntmps39
  go_wp2
  refine wp_loop_rounds 3 ?_
  rw [rounds_succ]
  go_wp2
  rw [rounds_succ]
  go_wp2
  rw [rounds_succ]
  go_wp2
  go_end0
  exact ⟨rfl, rfl⟩
theorem write_17 (b cap : Nat) (n x0 x1 : Int) (W : World) (h0 : 0 ≤ n) (h1 : n ≤ 99)
    (c0 : W.cell? ⟨b, 17, none⟩ = some (.int .u8 x0)) (c1 : W.cell? ⟨b, 18, none⟩ = some (.int .u8 x1)) (f0 : W.frozen? ⟨b, 17, none⟩ = false) (f1 : W.frozen? ⟨b, 18, none⟩ = false) :
    Calls Tryd.prog 39 #[.slice (some ⟨b, 17, none⟩) 2 cap, .int .i64 n] W fun e w' => e = .returned (.tuple #[]) ∧ w' = (W.setCell ⟨b, 18, none⟩ (.int .u8 (48 + n % 10))).setCell ⟨b, 17, none⟩ (.int .u8 (48 + n / 10 % 10)) := by
  go_enter Tryd.func39, Tryd.ntmps39
  go_wp2
  refine wp_loop_rounds 3 ?_
  rw [rounds_succ]
  go_wp2
  rw [rounds_succ]
  go_wp2
  rw [rounds_succ]
  go_wp2
  go_end0
  exact ⟨rfl, rfl⟩
theorem write_0 (b cap : Nat) (n x0 x1 x2 x3 : Int) (W : World) (h0 : 0 ≤ n) (h1 : n ≤ 9999)
    (c0 : W.cell? ⟨b, 0, none⟩ = some (.int .u8 x0)) (c1 : W.cell? ⟨b, 1, none⟩ = some (.int .u8 x1)) (c2 : W.cell? ⟨b, 2, none⟩ = some (.int .u8 x2)) (c3 : W.cell? ⟨b, 3, none⟩ = some (.int .u8 x3))
    (f0 : W.frozen? ⟨b, 0, none⟩ = false) (f1 : W.frozen? ⟨b, 1, none⟩ = false) (f2 : W.frozen? ⟨b, 2, none⟩ = false) (f3 : W.frozen? ⟨b, 3, none⟩ = false) :
    Calls Tryd.prog 39 #[.slice (some ⟨b, 0, none⟩) 4 cap, .int .i64 n] W fun e w' => e = .returned (.tuple #[]) ∧
      w' = (((W.setCell ⟨b, 3, none⟩ (.int .u8 (48 + n % 10))).setCell ⟨b, 2, none⟩ (.int .u8 (48 + n / 10 % 10))).setCell ⟨b, 1, none⟩ (.int .u8 (48 + n / 10 / 10 % 10))).setCell ⟨b, 0, none⟩ (.int .u8 (48 + n / 10 / 10 / 10 % 10)) := by
  go_enter Tryd.func39, Tryd.ntmps39
  go_wp2
  refine wp_loop_rounds 5 ?_
  rw [rounds_succ]
  go_wp2
  rw [rounds_succ]
  go_wp2
  rw [rounds_succ]
  go_wp2
  rw [rounds_succ]
  go_wp2
  rw [rounds_succ]
  go_wp2
  go_end0
  exact ⟨rfl, rfl⟩

@[go_sem] theorem conv_one (W : World) (k : Nat) (x : Int) (hk : W.heap.size = k) :
    (convert 49 9 (.slice (some ⟨k, 0, none⟩) 1 1)).run Tryd.prog (W.alloc (.cells #[.int .u8 x] 5)) = .ok (.string (strOfNums [x])) (W.alloc (.cells #[.int .u8 x] 5)) := by
  subst hk
  exact run_convert_bytes_arg _ 49 5 Tryd.underlying49 Tryd.underlying5 _ 0 1 1 [x] rfl (fun i hi => by
    obtain rfl : i = 0 := by omega
    simp [go_sem]) _ Tryd.underlying9
theorem strOfNums_append (xs ys : List Int) : strOfNums xs ++ strOfNums ys = strOfNums (xs ++ ys) := by
  apply ByteArray.ext
  simp [strOfNums]
theorem strOfNums_nil : (⟨#[]⟩ : ByteArray) = strOfNums [] := rfl
theorem ret_str {a b : ByteArray} (h : a = b) : Ending.returned (.string a) = .returned (.string b) := by rw [h]
set_option maxRecDepth 100000 in
theorem digits_2 (n : Int) (w : World) (h0 : 0 ≤ n) (h1 : n ≤ 99) :
    Calls Tryd.prog 40 #[.int .i64 n, .int .i64 2] w fun e w' => e = .returned (.string (strOfNums [48 + n / 10 % 10, 48 + n % 10])) ∧ Below w.heap.size w w' := by
  have hs := strOfNums_size
  go_enter Tryd.func40, Tryd.ntmps40
  go_wp2
  refine wp_loop_rounds 3 ?_
  rw [rounds_succ]
  go_wp2
  rw [rounds_succ]
  go_wp2
  rw [rounds_succ]
  go_wp2
  go_ret
  exact ⟨ret_str (by rw [strOfNums_nil, strOfNums_append, strOfNums_append]; rfl), ((Below.refl _ _).alloc (Nat.le_refl _) _).alloc (by simp) _⟩
set_option maxRecDepth 100000 in
theorem digits_4 (n : Int) (w : World) (h0 : 0 ≤ n) (h1 : n ≤ 9999) :
    Calls Tryd.prog 40 #[.int .i64 n, .int .i64 4] w fun e w' => e = .returned (.string (strOfNums [48 + n / 10 / 10 / 10 % 10, 48 + n / 10 / 10 % 10, 48 + n / 10 % 10, 48 + n % 10])) ∧ Below w.heap.size w w' := by
  have hs := strOfNums_size
  go_enter Tryd.func40, Tryd.ntmps40
  go_wp2
  refine wp_loop_rounds 5 ?_
  rw [rounds_succ]
  go_wp2
  rw [rounds_succ]
  go_wp2
  rw [rounds_succ]
  go_wp2
  rw [rounds_succ]
  go_wp2
  rw [rounds_succ]
  go_wp2
  go_ret
  exact ⟨ret_str (by rw [strOfNums_nil, strOfNums_append, strOfNums_append, strOfNums_append, strOfNums_append]; rfl), ((((Below.refl _ _).alloc (Nat.le_refl _) _).alloc (by simp) _).alloc (by simp; omega) _).alloc (by simp; omega) _⟩
end Go.Proofs.YtjffnjoeeclckaaDoor
