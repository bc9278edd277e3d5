/- Contracts of six and digits, of the statements. -/
import Derived.Test.YtlmbfhbfejjpdaaGreatDoorFldQ
import Derived.Lib.ConvBytes
namespace Go.Proofs.YtlmbfhbfejjpdaaGreatDoor
open Go.ChangeShapes Go.WideShapes Go.RowKit Go.Shelf

theorem six_full (i : Nat) (h : i < 6) : fullK (kd6 i) ≠ 0 ∧ fullK (kd6 i) < 2 ^ 64 :=
  six_cases h (P := fun i => fullK (kd6 i) ≠ 0 ∧ fullK (kd6 i) < 2 ^ 64) (by decide) (by decide) (by decide) (by decide) (by decide) (by decide)
/-- the kind i in memory -/
theorem Six.at_ {W : World} {a : Nat} (h : Six W a) (i : Nat) (hi : i < 6) :
    W.cell? ⟨a + 1 + 1, i * 4, none⟩ = some (.int .i64 (kd6 i).lo) ∧ W.cell? ⟨a + 1 + 1, i * 4 + 1, none⟩ = some (.int .i64 (kd6 i).hi) ∧ W.cell? ⟨a + 1 + 1, i * 4 + 2, none⟩ = some (na6 a i) ∧ W.cell? ⟨a + 1 + 1, i * 4 + 3, none⟩ = some (.bool (kd6 i).week) := by
  simp only [h.cell]
  match i, hi with
  | 0, _ => exact ⟨rfl, rfl, rfl, rfl⟩
  | 1, _ => exact ⟨rfl, rfl, rfl, rfl⟩
  | 2, _ => exact ⟨rfl, rfl, rfl, rfl⟩
  | 3, _ => exact ⟨rfl, rfl, rfl, rfl⟩
  | 4, _ => exact ⟨rfl, rfl, rfl, rfl⟩
  | 5, _ => exact ⟨rfl, rfl, rfl, rfl⟩
theorem na6_slice (a i : Nat) (hi : i < 6) : ∃ A L C, na6 a i = .slice A L C ∧ ∀ b o, A = some ⟨b, o, none⟩ → a ≤ b := by
  match i, hi with
  | 0, _ => exact ⟨_, _, _, rfl, fun _ _ h => by cases h⟩
  | 1, _ => exact ⟨_, _, _, rfl, fun _ _ h => by cases h⟩
  | 2, _ => exact ⟨_, _, _, rfl, fun _ _ h => by cases h⟩
  | 3, _ => exact ⟨_, _, _, rfl, fun _ _ h => by cases h⟩
  | 4, _ => exact ⟨_, _, _, rfl, fun _ _ h => by cases h; omega⟩
  | 5, _ => exact ⟨_, _, _, rfl, fun _ _ h => by cases h; omega⟩
theorem conv_one (W : World) (k : Nat) (x : Int) (hk : W.heap.size = k) :
    (convert 96 9 (.slice (some ⟨k, 0, none⟩) 1 1)).run Tryz.prog (W.alloc (.cells #[.int .u8 x] 5)) = .ok (.string (strOfNums [x])) (W.alloc (.cells #[.int .u8 x] 5)) := by
  subst hk
  exact run_convert_bytes_arg _ 96 5 Tryz.underlying96 Tryz.underlying5 _ 0 1 1 [x] rfl (fun i hi => by
    obtain rfl : i = 0 := by omega
    simp [go_sem]) _ Tryz.underlying9
theorem conv_two (W : World) (k : Nat) (x y : Int) (hk : W.heap.size = k) :
    (convert 96 9 (.slice (some ⟨k, 0, none⟩) 2 2)).run Tryz.prog (W.alloc (.cells #[.int .u8 x, .int .u8 y] 5)) = .ok (.string (strOfNums [x, y])) (W.alloc (.cells #[.int .u8 x, .int .u8 y] 5)) := by
  subst hk
  exact run_convert_bytes_arg _ 96 5 Tryz.underlying96 Tryz.underlying5 _ 0 2 2 [x, y] rfl (fun i hi => by
    have : i = 0 ∨ i = 1 := by omega
    rcases this with rfl | rfl <;> simp [go_sem]) _ Tryz.underlying9
attribute [local go_sem] conv_one conv_two
theorem nums_one (x : Int) (a : Nat) (h : x = a) : strOfNums [x] = ⟨#[UInt8.ofNat a]⟩ := by subst h; rfl
theorem nums_two (x y : Int) (a b : Nat) (h : x = a) (k : y = b) : strOfNums [x, y] = ⟨#[UInt8.ofNat a, UInt8.ofNat b]⟩ := by subst h; subst k; rfl
theorem ret_str {a b : ByteArray} (h : a = b) : Ending.returned (.string a) = .returned (.string b) := by rw [h]
end Go.Proofs.YtlmbfhbfejjpdaaGreatDoor
