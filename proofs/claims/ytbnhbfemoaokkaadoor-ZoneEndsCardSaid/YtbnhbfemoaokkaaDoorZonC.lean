/- A text of six bytes is copied into an array of six. -/
import Derived.Test.YtbnhbfemoaokkaaDoorZonB
import Derived.Lib.LazyBuf
namespace Go.Proofs.YtbnhbfemoaokkaaDoor
open Go.ChangeShapes Go.RowKit

/-- a text of six bytes -/
def six (x0 x1 x2 x3 x4 x5 : UInt8) : ByteArray := ⟨#[x0, x1, x2, x3, x4, x5]⟩
theorem six_size (x0 x1 x2 x3 x4 x5 : UInt8) : (six x0 x1 x2 x3 x4 x5).size = 6 := rfl
theorem six_ex (s : ByteArray) (h : s.size = 6) : ∃ x0 x1 x2 x3 x4 x5, s = six x0 x1 x2 x3 x4 x5 := by
  obtain ⟨⟨l⟩⟩ := s
  have h' : l.length = 6 := h
  match l, h' with
  | [b0, b1, b2, b3, b4, b5], _ => exact ⟨b0, b1, b2, b3, b4, b5, rfl⟩
def bt (x : UInt8) : Int := (x.toNat : Int)
theorem bt_bd (x : UInt8) : 0 ≤ bt x ∧ bt x ≤ 255 := by have := x.toNat_lt; unfold bt; omega

@[go_sem] theorem copy_six (W : World) (k : Nat) (x0 x1 x2 x3 x4 x5 : UInt8) (t ty : TypeId) (hk : W.heap.size = k) :
    (Builtin.copy_ #[56, 9] ty #[.slice (some ⟨k, 0, none⟩) 6 6, .string (six x0 x1 x2 x3 x4 x5)]).run Tryd.prog (W.alloc (.cells #[.int .u8 0, .int .u8 0, .int .u8 0, .int .u8 0, .int .u8 0, .int .u8 0] t)) =
      .ok (.int .i64 6) (W.alloc (.cells #[.int .u8 (bt x0), .int .u8 (bt x1), .int .u8 (bt x2), .int .u8 (bt x3), .int .u8 (bt x4), .int .u8 (bt x5)] t)) := by
  subst hk
  have h := run_copy_string (P := Tryd.prog) (W.alloc (.cells #[.int .u8 0, .int .u8 0, .int .u8 0, .int .u8 0, .int .u8 0, .int .u8 0] t)) 56 9 ty 5 W.heap.size 0 6 6 (six x0 x1 x2 x3 x4 x5) Tryd.underlying56 Tryd.sizeOf5 (by rw [six_size]; exact Nat.le_refl _)
    (fun j hj => by
      rw [six_size] at hj
      have : j = 0 ∨ j = 1 ∨ j = 2 ∨ j = 3 ∨ j = 4 ∨ j = 5 := by omega
      rcases this with rfl | rfl | rfl | rfl | rfl | rfl <;> simp [go_sem])
    (fun j hj => by simp [go_sem])
  rw [h]
  have e : (six x0 x1 x2 x3 x4 x5).data.toList.map (fun x => Value.int .u8 (x.toNat : Int)) = [.int .u8 (bt x0), .int .u8 (bt x1), .int .u8 (bt x2), .int .u8 (bt x3), .int .u8 (bt x4), .int .u8 (bt x5)] := rfl
  rw [e]
  simp [World.setCells, six_size, go_sem]

end Go.Proofs.YtbnhbfemoaokkaaDoor
