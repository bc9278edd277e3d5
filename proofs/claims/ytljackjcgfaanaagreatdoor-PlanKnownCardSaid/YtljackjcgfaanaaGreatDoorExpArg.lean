/- Expressions, and numbers of which one is made, that came in: what the frames of the statements take out of them. -/
import Derived.Test.YtljackjcgfaanaaGreatDoorRows
import Derived.Test.YtljackjcgfaanaaGreatDoorTie
import Derived.Test.YtljackjcgfaanaaGreatDoorCards
import Derived.Test.YtljackjcgfaanaaGreatDoorGMFldO
import Derived.Lib.LaidTab
import Derived.LaidLaws
import Derived.ChangeMaps5
import Derived.Lay
import Derived.LaidMore
import Derived.OpenShut
import Derived.Stop.Joined
import Derived.Lib.SmallJoins
import Derived.Test.YtljackjcgfaanaaGreatDoorMBitT
import Derived.Test.YtljackjcgfaanaaGreatDoorExpNo
namespace Go.Proofs.YtljackjcgfaanaaGreatDoor
open Go.ChangeShapes Go.WideShapes Go.ChangeAt Go.RowKit

set_option maxRecDepth 100000 in
theorem open_expr {H : Type} {enc : TypeId × Value → H} {W : World} {base b : Nat} {spare : Nat → Bool} {held : Bool} {r : Reach} {v : Value} {d : DataW H} {p : List MemPlace}
    (hv : Value.okWide Tryz.prog W r b 24 v) (h : DataW.Trod enc Tryz.prog W base spare held 24 v d p) :
    ∃ x : Exp.Ex, v = .agg #[.int .u64 x.a0, .int .u64 x.a1, .int .u64 x.a2, .int .u64 x.a3, .int .u64 x.a4, .int .u64 x.a5, .bool x.b3, .bool x.b5] ∧ x.Bd := by
  obtain ⟨cs, rfl, hsz⟩ := okWide_struct Tryz.underlying24 hv
  obtain ⟨fuel, hf⟩ := h
  obtain ⟨xs, n, _, _, hl, hlen, hg⟩ := DataW.trod_struct Tryz.underlying24 hf
  have c1 : Tryz.prog.cellsOf 22 = 1 := by kernel_rfl
  have c2 : Tryz.prog.cellsOf 4 = 1 := by kernel_rfl
  have c8 : Tryz.prog.cellsOf 24 = 8 := by kernel_rfl
  obtain ⟨l⟩ := cs
  have hl8 : l.length = 8 := by rw [← c8]; simpa [Value.cells] using hl
  have hx8 : xs.length = 8 := hlen
  match l, hl8, xs, hx8 with
  | [v0, v1, v2, v3, v4, v5, v6, v7], _, [x0, x1, x2, x3, x4, x5, x6, x7], _ =>
    have g0 := hg 0 _ rfl
    change DataW.trod enc Tryz.prog W base spare held n 22 (([v0, v1, v2, v3, v4, v5, v6, v7].drop 0).take (Tryz.prog.cellsOf 22)) = some x0 at g0
    rw [c1] at g0
    change DataW.trod enc Tryz.prog W base spare held n 22 [v0] = some x0 at g0
    have g1 := hg 1 _ rfl
    change DataW.trod enc Tryz.prog W base spare held n 22 (([v0, v1, v2, v3, v4, v5, v6, v7].drop 1).take (Tryz.prog.cellsOf 22)) = some x1 at g1
    rw [c1] at g1
    change DataW.trod enc Tryz.prog W base spare held n 22 [v1] = some x1 at g1
    have g2 := hg 2 _ rfl
    change DataW.trod enc Tryz.prog W base spare held n 22 (([v0, v1, v2, v3, v4, v5, v6, v7].drop 2).take (Tryz.prog.cellsOf 22)) = some x2 at g2
    rw [c1] at g2
    change DataW.trod enc Tryz.prog W base spare held n 22 [v2] = some x2 at g2
    have g3 := hg 3 _ rfl
    change DataW.trod enc Tryz.prog W base spare held n 22 (([v0, v1, v2, v3, v4, v5, v6, v7].drop 3).take (Tryz.prog.cellsOf 22)) = some x3 at g3
    rw [c1] at g3
    change DataW.trod enc Tryz.prog W base spare held n 22 [v3] = some x3 at g3
    have g4 := hg 4 _ rfl
    change DataW.trod enc Tryz.prog W base spare held n 22 (([v0, v1, v2, v3, v4, v5, v6, v7].drop 4).take (Tryz.prog.cellsOf 22)) = some x4 at g4
    rw [c1] at g4
    change DataW.trod enc Tryz.prog W base spare held n 22 [v4] = some x4 at g4
    have g5 := hg 5 _ rfl
    change DataW.trod enc Tryz.prog W base spare held n 22 (([v0, v1, v2, v3, v4, v5, v6, v7].drop 5).take (Tryz.prog.cellsOf 22)) = some x5 at g5
    rw [c1] at g5
    change DataW.trod enc Tryz.prog W base spare held n 22 [v5] = some x5 at g5
    have g6 := hg 6 _ rfl
    change DataW.trod enc Tryz.prog W base spare held n 4 (([v0, v1, v2, v3, v4, v5, v6, v7].drop 6).take (Tryz.prog.cellsOf 4)) = some x6 at g6
    rw [c2] at g6
    change DataW.trod enc Tryz.prog W base spare held n 4 [v6] = some x6 at g6
    have g7 := hg 7 _ rfl
    change DataW.trod enc Tryz.prog W base spare held n 4 (([v0, v1, v2, v3, v4, v5, v6, v7].drop 7).take (Tryz.prog.cellsOf 4)) = some x7 at g7
    rw [c2] at g7
    change DataW.trod enc Tryz.prog W base spare held n 4 [v7] = some x7 at g7
    obtain ⟨n0, e0, _, w0⟩ := DataW.trod_int Tryz.underlying22 g0
    obtain ⟨n1, e1, _, w1⟩ := DataW.trod_int Tryz.underlying22 g1
    obtain ⟨n2, e2, _, w2⟩ := DataW.trod_int Tryz.underlying22 g2
    obtain ⟨n3, e3, _, w3⟩ := DataW.trod_int Tryz.underlying22 g3
    obtain ⟨n4, e4, _, w4⟩ := DataW.trod_int Tryz.underlying22 g4
    obtain ⟨n5, e5, _, w5⟩ := DataW.trod_int Tryz.underlying22 g5
    obtain ⟨n6, e6, _⟩ := DataW.trod_bool Tryz.underlying4 g6
    obtain ⟨n7, e7, _⟩ := DataW.trod_bool Tryz.underlying4 g7
    simp only [List.cons.injEq, and_true] at e0 e1 e2 e3 e4 e5 e6 e7
    subst e0 e1 e2 e3 e4 e5 e6 e7
    obtain ⟨m0, rfl, b0⟩ := nat_u64 w0
    obtain ⟨m1, rfl, b1⟩ := nat_u64 w1
    obtain ⟨m2, rfl, b2⟩ := nat_u64 w2
    obtain ⟨m3, rfl, b3⟩ := nat_u64 w3
    obtain ⟨m4, rfl, b4⟩ := nat_u64 w4
    obtain ⟨m5, rfl, b5⟩ := nat_u64 w5
    exact ⟨⟨m0, m1, m2, m3, m4, m5, n6, n7⟩, rfl, fun i hi => six_cases hi (P := fun i => (⟨m0, m1, m2, m3, m4, m5, n6, n7⟩ : Exp.Ex).at i < 2 ^ 64) b0 b1 b2 b3 b4 b5⟩
end Go.Proofs.YtljackjcgfaanaaGreatDoor
