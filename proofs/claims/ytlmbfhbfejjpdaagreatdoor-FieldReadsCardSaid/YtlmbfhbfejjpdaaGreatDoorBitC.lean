/- Contracts of Next, Prev and Turn, of package bits and of the document's: which number each returns, or that there is none; the world stays. -/
import Derived.Test.YtlmbfhbfejjpdaaGreatDoorBitB
namespace Go.Proofs.YtlmbfhbfejjpdaaGreatDoor
open Go.ChangeShapes Go.RowKit

theorem ret_2 {a a' : Int} {b b' : Bool} (h : a = a') (h' : b = b') : Ending.returned (.tuple #[.int .i64 a, .bool b]) = .returned (.tuple #[.int .i64 a', .bool b']) := by rw [h, h']
theorem ret_3 {a a' n n' : Int} {b b' : Bool} (h : a = a') (hn : n = n') (h' : b = b') : Ending.returned (.tuple #[.int .i64 a, .int .i64 n, .bool b]) = .returned (.tuple #[.int .i64 a', .int .i64 n', .bool b']) := by rw [h, hn, h']

/-- what Next returns, and what Prev -/
def IsNext (S : Nat) (v : Int) (a : Int) (b : Bool) : Prop := (NoNxt S v ∧ a = 0 ∧ b = false) ∨ ∃ r : Nat, Nxt S v r ∧ a = r ∧ b = true
def IsPrev (S : Nat) (v : Int) (a : Int) (b : Bool) : Prop := (NoPrv S v ∧ a = 0 ∧ b = false) ∨ ∃ r : Nat, Prv S v r ∧ a = r ∧ b = true
theorem isNext_ex {S : Nat} (v : Int) (hS : S < 2 ^ 64) : ∃ a b, IsNext S v a b := by
  rcases nxt_ex v hS with h | ⟨r, h⟩
  · exact ⟨_, _, .inl ⟨h, rfl, rfl⟩⟩
  · exact ⟨_, _, .inr ⟨r, h, rfl, rfl⟩⟩
theorem isPrev_ex {S : Nat} (v : Int) (hS : S < 2 ^ 64) : ∃ a b, IsPrev S v a b := by
  rcases prv_ex v hS with h | ⟨r, h⟩
  · exact ⟨_, _, .inl ⟨h, rfl, rfl⟩⟩
  · exact ⟨_, _, .inr ⟨r, h, rfl, rfl⟩⟩
theorem next_any (S : Nat) (v a : Int) (b : Bool) (w : World) (L : Lay w) (hS : S < 2 ^ 64) (v1 : v ≤ 9223372036854775807) (h : IsNext S v a b) :
    Calls Tryz.prog 70 #[.int .u64 S, .int .i64 v] w fun e w' => e = .returned (.tuple #[.int .i64 a, .bool b]) ∧ w = w' := by
  rcases h with ⟨h, rfl, rfl⟩ | ⟨r, h, rfl, rfl⟩
  · exact next_no S v w hS v1 h
  · exact next_yes S v r w L hS v1 h
end Go.Proofs.YtlmbfhbfejjpdaaGreatDoor
