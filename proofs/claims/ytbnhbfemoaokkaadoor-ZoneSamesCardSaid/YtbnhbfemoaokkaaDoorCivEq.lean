/- What == says of two arrays of three ints, and of two civil times. -/
import Derived.Test.YtbnhbfemoaokkaaDoorProg
import Derived.WalkKit
import Derived.ProofKit
import Derived.Laws.StructEq
namespace Go.Proofs.YtbnhbfemoaokkaaDoor
open Go.RowKit

def same3 (a b c a' b' c' : Int) : Bool := a == a' && (b == b' && c == c')
def same6 (a b c d e f a' b' c' d' e' f' : Int) : Bool := a == a' && (b == b' && (c == c' && (d == d' && (e == e' && f == f'))))
theorem same3_t (a b c : Int) : same3 a b c a b c = true := by simp [same3]
theorem same3_f {a b c a' b' c' : Int} (h : ¬ (a = a' ∧ b = b' ∧ c = c')) : same3 a b c a' b' c' = false := by
  rw [Bool.eq_false_iff]; intro k; apply h; simpa [same3] using k
theorem same6_t (a b c d e f : Int) : same6 a b c d e f a b c d e f = true := by simp [same6]
theorem same6_f {a b c d e f a' b' c' d' e' f' : Int} (h : ¬ (a = a' ∧ b = b' ∧ c = c' ∧ d = d' ∧ e = e' ∧ f = f')) : same6 a b c d e f a' b' c' d' e' f' = false := by
  rw [Bool.eq_false_iff]; intro k; apply h; simpa [same6] using k
theorem same6_iff {a b c d e f a' b' c' d' e' f' : Int} : same6 a b c d e f a' b' c' d' e' f' = true ↔ (a = a' ∧ b = b' ∧ c = c' ∧ d = d' ∧ e = e' ∧ f = f') := by
  simp [same6]

@[go_sem] theorem eqArr (a b c a' b' c' : Int) (w : World) : (Op.equalIn 10000 68 (.agg #[.int .i64 a, .int .i64 b, .int .i64 c]) (.agg #[.int .i64 a', .int .i64 b', .int .i64 c'])).run Tryd.prog w = .ok (same3 a b c a' b' c') w := by
  have u3 := Tryd.underlying3
  have a3 := Tryd.isAgg3
  have z3 := Tryd.sizeOf3
  rw [show (10000 : Nat) = 9999 + 1 from rfl, Op.equalIn]
  simp only [Sem.run_bind, run_underlying Tryd.underlying68, Result.andThen_ok]
  simp only [Std.Legacy.Range.forIn_eq_forIn_range', Std.Legacy.Range.size, Nat.sub_zero, Nat.add_sub_cancel, Nat.div_one, List.range'_succ, List.range'_zero, List.forIn_cons, List.forIn_nil]
  go_simp
  by_cases h1 : a = a' <;> by_cases h2 : b = b' <;> by_cases h3 : c = c' <;> simp [h1, h2, h3, same3]
@[go_sem] theorem eqCivil (a b c d e f a' b' c' d' e' f' : Int) (w : World) : (Op.equalIn 10000 31 (.agg #[.int .i64 a, .int .i64 b, .int .i64 c, .int .i64 d, .int .i64 e, .int .i64 f]) (.agg #[.int .i64 a', .int .i64 b', .int .i64 c', .int .i64 d', .int .i64 e', .int .i64 f'])).run Tryd.prog w = .ok (same6 a b c d e f a' b' c' d' e' f') w := by
  have u3 := Tryd.underlying3
  have a3 := Tryd.isAgg3
  have z3 := Tryd.sizeOf3
  have hS : Tryd.prog.underlying 31 = some (.struct (Tryd.prog.fieldsOf 31)) := by kernel_rfl
  have hp : Tryd.prog.stoodInHeld 31 = false := by kernel_rfl
  rw [show (10000 : Nat) = 9999 + 1 from rfl, run_equalIn_agg w 9999 31 _ _ hS hp]
  simp only [Program.fieldsOf, Tryd.underlying31]
  go_simp
  by_cases h1 : a = a' <;> by_cases h2 : b = b' <;> by_cases h3 : c = c' <;> by_cases h4 : d = d' <;> by_cases h5 : e = e' <;> by_cases h6 : f = f' <;> simp [h1, h2, h3, h4, h5, h6, same6]
end Go.Proofs.YtbnhbfemoaokkaaDoor
