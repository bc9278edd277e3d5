/- A schedule that comes in is three ints. -/
import Derived.Test.YtnajpgkahnjabaaRows
import Derived.Test.YtnajpgkahnjabaaEveW
import Derived.OpenShut
import Derived.ChangeOld
namespace Go.Proofs.Ytnajpgkahnjabaa
open Go.ChangeShapes Go.WideShapes Go.ChangeAt Go.RowKit

theorem open_every {H : Type} {enc : TypeId × Value → H} {W : World} {base b : Nat} {spare : Nat → Bool} {held : Bool} {r : Reach} {v : Value} {d : DataW H} {p : List MemPlace}
    (hv : Value.okWide Try.prog W r b 23 v) (h : DataW.Trod enc Try.prog W base spare held 23 v d p) :
    ∃ n0 n1 n2 : Int, v = .agg #[.int .i64 n0, .int .i64 n1, .int .i64 n2] ∧ ((Lit.int .i64 n0).wf = true ∧ (Lit.int .i64 n1).wf = true ∧ (Lit.int .i64 n2).wf = true) := by
  obtain ⟨cs, rfl, hsz⟩ := okWide_struct Try.underlying23 hv
  obtain ⟨fuel, hf⟩ := h
  obtain ⟨xs, n, _, _, hl, hlen, hg⟩ := DataW.trod_struct Try.underlying23 hf
  have c1 : Try.prog.cellsOf 2 = 1 := by kernel_rfl
  have c2 : Try.prog.cellsOf 3 = 1 := by kernel_rfl
  have c3 : Try.prog.cellsOf 23 = 3 := by kernel_rfl
  obtain ⟨l⟩ := cs
  have hl3 : l.length = 3 := by rw [← c3]; simpa [Value.cells] using hl
  have hx3 : xs.length = 3 := hlen
  match l, hl3, xs, hx3 with
  | [v0, v1, v2], _, [x0, x1, x2], _ =>
    have g0 := hg 0 _ rfl
    change DataW.trod enc Try.prog W base spare held n 2 (([v0, v1, v2].drop 0).take (Try.prog.cellsOf 2)) = some x0 at g0
    rw [c1] at g0
    change DataW.trod enc Try.prog W base spare held n 2 [v0] = some x0 at g0
    have g1 := hg 1 _ rfl
    change DataW.trod enc Try.prog W base spare held n 2 (([v0, v1, v2].drop 1).take (Try.prog.cellsOf 2)) = some x1 at g1
    rw [c1] at g1
    change DataW.trod enc Try.prog W base spare held n 2 [v1] = some x1 at g1
    have g2 := hg 2 _ rfl
    change DataW.trod enc Try.prog W base spare held n 3 (([v0, v1, v2].drop 2).take (Try.prog.cellsOf 3)) = some x2 at g2
    rw [c2] at g2
    change DataW.trod enc Try.prog W base spare held n 3 [v2] = some x2 at g2
    obtain ⟨n0, e0, _, w0⟩ := DataW.trod_int Try.underlying2 g0
    obtain ⟨n1, e1, _, w1⟩ := DataW.trod_int Try.underlying2 g1
    obtain ⟨n2, e2, _, w2⟩ := DataW.trod_int Try.underlying3 g2
    simp only [List.cons.injEq, and_true] at e0 e1 e2
    subst e0 e1 e2
    exact ⟨n0, n1, n2, rfl, w0, w1, w2⟩

theorem own : ownKnob Try.prog.godebug = none := by kernel_rfl
theorem laidOut : laidOutB Try.prog = true := by kernel_rfl
/-- the bounds of an int64 that came in -/
theorem bd64 {n : Int} (h : (Lit.int .i64 n).wf = true) : -9223372036854775808 ≤ n ∧ n ≤ 9223372036854775807 := by
  simpa [Lit.wf, show IntKind.i64.min = -9223372036854775808 from rfl, show IntKind.i64.max = 9223372036854775807 from rfl] using h
theorem Ex.new {w W : World} {s p c : Int} (h : Below w.heap.size w W) : Ex w W.heap.size s p c (W.alloc (.cells #[.int .i64 s, .int .i64 p, .int .i64 c] 23)) := ⟨h.alloc h.size _, by simp [go_sem], by simp [go_sem], by simp [go_sem]⟩
theorem Ex.second (w : World) (s p c s' p' c' : Int) : Ex w (w.heap.size + 1) s' p' c' ((w.alloc (.cells #[.int .i64 s, .int .i64 p, .int .i64 c] 23)).alloc (.cells #[.int .i64 s', .int .i64 p', .int .i64 c'] 23)) :=
  ⟨(Ex.start w s p c).bel.alloc (Ex.start w s p c).bel.size _, by simp [go_sem], by simp [go_sem], by simp [go_sem]⟩
theorem Ex.alloc {w : World} {g : Nat} {s p c : Int} {W : World} (h : Ex w g s p c W) (o : Obj) : Ex w g s p c (W.alloc o) := h.next ((Below.refl _ _).alloc (Nat.le_refl _) _)
end Go.Proofs.Ytnajpgkahnjabaa
