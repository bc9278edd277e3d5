/- Plans that came in: what the frames of the statements take out of them. -/
import Derived.Test.YtljackjcgfaanaaGreatDoorGPlaL
import Derived.Test.YtljackjcgfaanaaGreatDoorBlkArg
import Derived.Test.YtljackjcgfaanaaGreatDoorExpArg
import Derived.OpenShut
import Derived.ChangeOld
namespace Go.Proofs.YtljackjcgfaanaaGreatDoor
open Go.ChangeShapes Go.WideShapes Go.ChangeAt Go.RowKit

theorem pbd64 {n : Int} (h : (Lit.int .i64 n).wf = true) : -9223372036854775808 ≤ n ∧ n ≤ 9223372036854775807 := by
  simpa [Lit.wf, show IntKind.i64.min = -9223372036854775808 from rfl, show IntKind.i64.max = 9223372036854775807 from rfl] using h
theorem expr_of {H : Type} {enc : TypeId × Value → H} {W : World} {base fuel : Nat} {spare : Nat → Bool} {held : Bool} {v0 v1 v2 v3 v4 v5 v6 v7 : Value} {x : DataW H × List MemPlace}
    (h : DataW.trod enc Tryz.prog W base spare held fuel 24 [v0, v1, v2, v3, v4, v5, v6, v7] = some x) :
    ∃ x : Exp.Ex, v0 = .int .u64 x.a0 ∧ v1 = .int .u64 x.a1 ∧ v2 = .int .u64 x.a2 ∧ v3 = .int .u64 x.a3 ∧ v4 = .int .u64 x.a4 ∧ v5 = .int .u64 x.a5 ∧ v6 = .bool x.b3 ∧ v7 = .bool x.b5 ∧ x.Bd := by
  obtain ⟨xs, n, _, _, hl, hlen, hg⟩ := DataW.trod_struct Tryz.underlying24 h
  have c1 : Tryz.prog.cellsOf 22 = 1 := by kernel_rfl
  have c2 : Tryz.prog.cellsOf 4 = 1 := by kernel_rfl
  have hx8 : xs.length = 8 := hlen
  match xs, hx8 with
  | [x0, x1, x2, x3, x4, x5, x6, x7], _ =>
    have g0 := hg 0 _ rfl
    change DataW.trod enc Tryz.prog W base spare held n 22 (([v0, v1, v2, v3, v4, v5, v6, v7].drop 0).take (Tryz.prog.cellsOf 22)) = some x0 at g0
    rw [c1] at g0
    change DataW.trod enc Tryz.prog W base spare held n 22 [v0] = some x0 at g0
    have g1 := hg 1 _ rfl
    change DataW.trod enc Tryz.prog W base spare held n 22 (([v0, v1, v2, v3, v4, v5, v6, v7].drop 1).take (Tryz.prog.cellsOf 22)) = some x1 at g1
    rw [c1] at g1
    change DataW.trod enc Tryz.prog W base spare held n 22 [v1] = some x1 at g1
    have g2 := hg 2 _ rfl
    change DataW.trod enc Tryz.prog W base spare held n 22 (([v0, v1, v2, v3, v4, v5, v6, v7].drop 2).take (Tryz.prog.cellsOf 22)) = some x2 at g2
    rw [c1] at g2
    change DataW.trod enc Tryz.prog W base spare held n 22 [v2] = some x2 at g2
    have g3 := hg 3 _ rfl
    change DataW.trod enc Tryz.prog W base spare held n 22 (([v0, v1, v2, v3, v4, v5, v6, v7].drop 3).take (Tryz.prog.cellsOf 22)) = some x3 at g3
    rw [c1] at g3
    change DataW.trod enc Tryz.prog W base spare held n 22 [v3] = some x3 at g3
    have g4 := hg 4 _ rfl
    change DataW.trod enc Tryz.prog W base spare held n 22 (([v0, v1, v2, v3, v4, v5, v6, v7].drop 4).take (Tryz.prog.cellsOf 22)) = some x4 at g4
    rw [c1] at g4
    change DataW.trod enc Tryz.prog W base spare held n 22 [v4] = some x4 at g4
    have g5 := hg 5 _ rfl
    change DataW.trod enc Tryz.prog W base spare held n 22 (([v0, v1, v2, v3, v4, v5, v6, v7].drop 5).take (Tryz.prog.cellsOf 22)) = some x5 at g5
    rw [c1] at g5
    change DataW.trod enc Tryz.prog W base spare held n 22 [v5] = some x5 at g5
    have g6 := hg 6 _ rfl
    change DataW.trod enc Tryz.prog W base spare held n 4 (([v0, v1, v2, v3, v4, v5, v6, v7].drop 6).take (Tryz.prog.cellsOf 4)) = some x6 at g6
    rw [c2] at g6
    change DataW.trod enc Tryz.prog W base spare held n 4 [v6] = some x6 at g6
    have g7 := hg 7 _ rfl
    change DataW.trod enc Tryz.prog W base spare held n 4 (([v0, v1, v2, v3, v4, v5, v6, v7].drop 7).take (Tryz.prog.cellsOf 4)) = some x7 at g7
    rw [c2] at g7
    change DataW.trod enc Tryz.prog W base spare held n 4 [v7] = some x7 at g7
    obtain ⟨n0, e0, _, w0⟩ := DataW.trod_int Tryz.underlying22 g0
    obtain ⟨n1, e1, _, w1⟩ := DataW.trod_int Tryz.underlying22 g1
    obtain ⟨n2, e2, _, w2⟩ := DataW.trod_int Tryz.underlying22 g2
    obtain ⟨n3, e3, _, w3⟩ := DataW.trod_int Tryz.underlying22 g3
    obtain ⟨n4, e4, _, w4⟩ := DataW.trod_int Tryz.underlying22 g4
    obtain ⟨n5, e5, _, w5⟩ := DataW.trod_int Tryz.underlying22 g5
    obtain ⟨n6, e6, _⟩ := DataW.trod_bool Tryz.underlying4 g6
    obtain ⟨n7, e7, _⟩ := DataW.trod_bool Tryz.underlying4 g7
    simp only [List.cons.injEq, and_true] at e0 e1 e2 e3 e4 e5 e6 e7
    subst e0 e1 e2 e3 e4 e5 e6 e7
    obtain ⟨m0, rfl, b0⟩ := nat_u64 w0
    obtain ⟨m1, rfl, b1⟩ := nat_u64 w1
    obtain ⟨m2, rfl, b2⟩ := nat_u64 w2
    obtain ⟨m3, rfl, b3⟩ := nat_u64 w3
    obtain ⟨m4, rfl, b4⟩ := nat_u64 w4
    obtain ⟨m5, rfl, b5⟩ := nat_u64 w5
    exact ⟨⟨m0, m1, m2, m3, m4, m5, n6, n7⟩, rfl, rfl, rfl, rfl, rfl, rfl, rfl, rfl, fun i hi => six_cases hi (P := fun i => (⟨m0, m1, m2, m3, m4, m5, n6, n7⟩ : Exp.Ex).at i < 2 ^ 64) b0 b1 b2 b3 b4 b5⟩
theorem every_of {H : Type} {enc : TypeId × Value → H} {W : World} {base fuel : Nat} {spare : Nat → Bool} {held : Bool} {v0 v1 v2 : Value} {x : DataW H × List MemPlace}
    (h : DataW.trod enc Tryz.prog W base spare held fuel 26 [v0, v1, v2] = some x) :
    ∃ n0 n1 n2 : Int, (v0 = .int .i64 n0 ∧ v1 = .int .i64 n1 ∧ v2 = .int .i64 n2) ∧ (Lit.int .i64 n0).wf = true ∧ (Lit.int .i64 n1).wf = true ∧ (Lit.int .i64 n2).wf = true := by
  obtain ⟨xs, n, _, _, hl, hlen, hg⟩ := DataW.trod_struct Tryz.underlying26 h
  have c1 : Tryz.prog.cellsOf 2 = 1 := by kernel_rfl
  have c2 : Tryz.prog.cellsOf 3 = 1 := by kernel_rfl
  have hx3 : xs.length = 3 := hlen
  match xs, hx3 with
  | [x0, x1, x2], _ =>
    have g0 := hg 0 _ rfl
    change DataW.trod enc Tryz.prog W base spare held n 2 (([v0, v1, v2].drop 0).take (Tryz.prog.cellsOf 2)) = some x0 at g0
    rw [c1] at g0
    change DataW.trod enc Tryz.prog W base spare held n 2 [v0] = some x0 at g0
    obtain ⟨n0, e0, _, w0⟩ := DataW.trod_int Tryz.underlying2 g0
    have g1 := hg 1 _ rfl
    change DataW.trod enc Tryz.prog W base spare held n 2 (([v0, v1, v2].drop 1).take (Tryz.prog.cellsOf 2)) = some x1 at g1
    rw [c1] at g1
    change DataW.trod enc Tryz.prog W base spare held n 2 [v1] = some x1 at g1
    obtain ⟨n1, e1, _, w1⟩ := DataW.trod_int Tryz.underlying2 g1
    have g2 := hg 2 _ rfl
    change DataW.trod enc Tryz.prog W base spare held n 3 (([v0, v1, v2].drop 2).take (Tryz.prog.cellsOf 3)) = some x2 at g2
    rw [c2] at g2
    change DataW.trod enc Tryz.prog W base spare held n 3 [v2] = some x2 at g2
    obtain ⟨n2, e2, _, w2⟩ := DataW.trod_int Tryz.underlying3 g2
    simp only [List.cons.injEq, and_true] at e0 e1 e2
    subst e0 e1 e2
    exact ⟨n0, n1, n2, ⟨rfl, rfl, rfl⟩, w0, w1, w2⟩
/-- the ints of a plan that came in fit -/
def PWf (q : Pl.P) : Prop := (Lit.int .i64 q.k).wf = true ∧ (Lit.int .i64 q.z).wf = true ∧ (Lit.int .i64 q.s).wf = true ∧ (Lit.int .i64 q.p).wf = true ∧ (Lit.int .i64 q.c).wf = true
set_option maxRecDepth 100000 in
theorem plan_of {H : Type} {enc : TypeId × Value → H} {W : World} {base fuel : Nat} {spare : Nat → Bool} {held : Bool} {l : List Value} {x : DataW H × List MemPlace}
    (h : DataW.trod enc Tryz.prog W base spare held fuel 29 l = some x) :
    ∃ (q : Pl.P) (a : Option Addr) (len cap : Nat), l = plL q (.slice a len cap) ∧ q.l.length = len ∧ q.x.Bd ∧ PWf q ∧ Bo.InS W (.slice a len cap) q.l := by
  obtain ⟨xs, n, _, _, hl, hlen, hg⟩ := DataW.trod_struct Tryz.underlying29 h
  have cp : Tryz.prog.cellsOf 29 = 14 := by kernel_rfl
  have ci : Tryz.prog.cellsOf 3 = 1 := by kernel_rfl
  have ce : Tryz.prog.cellsOf 24 = 8 := by kernel_rfl
  have cv : Tryz.prog.cellsOf 26 = 3 := by kernel_rfl
  have cs : Tryz.prog.cellsOf 27 = 1 := by kernel_rfl
  rw [cp] at hl
  have hx5 : xs.length = 5 := hlen
  match l, hl, xs, hx5 with
  | [v0, v1, v2, v3, v4, v5, v6, v7, v8, v9, v10, v11, v12, v13], _, [x0, x1, x2, x3, x4], _ =>
    have g0 := hg 0 _ rfl
    change DataW.trod enc Tryz.prog W base spare held n 3 (([v0, v1, v2, v3, v4, v5, v6, v7, v8, v9, v10, v11, v12, v13].drop 0).take (Tryz.prog.cellsOf 3)) = some x0 at g0
    rw [ci] at g0
    change DataW.trod enc Tryz.prog W base spare held n 3 [v0] = some x0 at g0
    have g1 := hg 1 _ rfl
    change DataW.trod enc Tryz.prog W base spare held n 24 (([v0, v1, v2, v3, v4, v5, v6, v7, v8, v9, v10, v11, v12, v13].drop 1).take (Tryz.prog.cellsOf 24)) = some x1 at g1
    rw [ce] at g1
    change DataW.trod enc Tryz.prog W base spare held n 24 [v1, v2, v3, v4, v5, v6, v7, v8] = some x1 at g1
    have g2 := hg 2 _ rfl
    change DataW.trod enc Tryz.prog W base spare held n 3 (([v0, v1, v2, v3, v4, v5, v6, v7, v8, v9, v10, v11, v12, v13].drop 9).take (Tryz.prog.cellsOf 3)) = some x2 at g2
    rw [ci] at g2
    change DataW.trod enc Tryz.prog W base spare held n 3 [v9] = some x2 at g2
    have g3 := hg 3 _ rfl
    change DataW.trod enc Tryz.prog W base spare held n 26 (([v0, v1, v2, v3, v4, v5, v6, v7, v8, v9, v10, v11, v12, v13].drop 10).take (Tryz.prog.cellsOf 26)) = some x3 at g3
    rw [cv] at g3
    change DataW.trod enc Tryz.prog W base spare held n 26 [v10, v11, v12] = some x3 at g3
    have g4 := hg 4 _ rfl
    change DataW.trod enc Tryz.prog W base spare held n 27 (([v0, v1, v2, v3, v4, v5, v6, v7, v8, v9, v10, v11, v12, v13].drop 13).take (Tryz.prog.cellsOf 27)) = some x4 at g4
    rw [cs] at g4
    change DataW.trod enc Tryz.prog W base spare held n 27 [v13] = some x4 at g4
    obtain ⟨k, e0, _, w0⟩ := DataW.trod_int Tryz.underlying3 g0
    obtain ⟨z, e2, _, w2⟩ := DataW.trod_int Tryz.underlying3 g2
    obtain ⟨x, ⟨r1, r2, r3, r4, r5, r6, r7, r8, bd⟩⟩ := expr_of g1
    obtain ⟨s, p, c, ⟨s1, s2, s3⟩, ws, wp, wc⟩ := every_of g3
    obtain ⟨a, len, cap, rfl⟩ : ∃ a len cap, v13 = .slice a len cap := by
      rcases DataW.trod_slice Tryz.underlying27 g4 with ⟨h0, _⟩ | ⟨p, l, c, elems, rest, n, _, h0, _⟩
      · exact ⟨none, 0, 0, by simpa using h0⟩
      · exact ⟨some p, l, c, by simpa using h0⟩
    obtain ⟨l, el, hI⟩ := Bo.open_spans g4
    simp only [List.cons.injEq, and_true] at e0 e2
    subst e0 e2 r1 r2 r3 r4 r5 r6 r7 r8 s1 s2 s3
    exact ⟨⟨k, x, z, s, p, c, l⟩, a, len, cap, rfl, el, bd, ⟨w0, w2, ws, wp, wc⟩, hI⟩
set_option maxRecDepth 100000 in
theorem open_plan {H : Type} {enc : TypeId × Value → H} {W : World} {base b : Nat} {spare : Nat → Bool} {held : Bool} {r : Reach} {v : Value} {d : DataW H} {p : List MemPlace}
    (hv : Value.okWide Tryz.prog W r b 29 v) (h : DataW.Trod enc Tryz.prog W base spare held 29 v d p) :
    ∃ (q : Pl.P) (a : Option Addr) (cap : Nat), v = .agg #[.int .i64 q.k, .int .u64 q.x.a0, .int .u64 q.x.a1, .int .u64 q.x.a2, .int .u64 q.x.a3, .int .u64 q.x.a4, .int .u64 q.x.a5, .bool q.x.b3, .bool q.x.b5, .int .i64 q.z, .int .i64 q.s, .int .i64 q.p, .int .i64 q.c, (.slice a q.l.length cap)] ∧ q.x.Bd ∧ PWf q ∧ Bo.InS W (.slice a q.l.length cap) q.l := by
  obtain ⟨cs, rfl, hsz⟩ := okWide_struct Tryz.underlying29 hv
  obtain ⟨fuel, hf⟩ := h
  obtain ⟨q, a, len, cap, e, rfl, bd, wf, hI⟩ := plan_of hf
  obtain ⟨l⟩ := cs
  have e' : l = plL q (.slice a q.l.length cap) := by simpa [Value.cells] using e
  subst e'
  exact ⟨q, a, cap, rfl, bd, wf, hI⟩
set_option maxRecDepth 100000 in
theorem open_span {H : Type} {enc : TypeId × Value → H} {W : World} {base b : Nat} {spare : Nat → Bool} {held : Bool} {r : Reach} {v : Value} {d : DataW H} {p : List MemPlace}
    (hv : Value.okWide Tryz.prog W r b 48 v) (h : DataW.Trod enc Tryz.prog W base spare held 48 v d p) :
    ∃ n0 n1 : Int, v = .agg #[.int .i64 n0, .int .i64 n1] ∧ (Lit.int .i64 n0).wf = true ∧ (Lit.int .i64 n1).wf = true := by
  obtain ⟨cs, rfl, hsz⟩ := okWide_struct Tryz.underlying48 hv
  obtain ⟨fuel, hf⟩ := h
  obtain ⟨xs, n, _, _, hl, hlen, hg⟩ := DataW.trod_struct Tryz.underlying48 hf
  have c1 : Tryz.prog.cellsOf 2 = 1 := by kernel_rfl
  have c2 : Tryz.prog.cellsOf 48 = 2 := by kernel_rfl
  obtain ⟨l⟩ := cs
  have hl2 : l.length = 2 := by rw [← c2]; simpa [Value.cells] using hl
  have hx2 : xs.length = 2 := hlen
  match l, hl2, xs, hx2 with
  | [v0, v1], _, [x0, x1], _ =>
    have g0 := hg 0 _ rfl
    change DataW.trod enc Tryz.prog W base spare held n 2 (([v0, v1].drop 0).take (Tryz.prog.cellsOf 2)) = some x0 at g0
    rw [c1] at g0
    change DataW.trod enc Tryz.prog W base spare held n 2 [v0] = some x0 at g0
    have g1 := hg 1 _ rfl
    change DataW.trod enc Tryz.prog W base spare held n 2 (([v0, v1].drop 1).take (Tryz.prog.cellsOf 2)) = some x1 at g1
    rw [c1] at g1
    change DataW.trod enc Tryz.prog W base spare held n 2 [v1] = some x1 at g1
    obtain ⟨n0, e0, _, w0⟩ := DataW.trod_int Tryz.underlying2 g0
    obtain ⟨n1, e1, _, w1⟩ := DataW.trod_int Tryz.underlying2 g1
    simp only [List.cons.injEq, and_true] at e0 e1
    subst e0 e1
    exact ⟨n0, n1, rfl, w0, w1⟩
end Go.Proofs.YtljackjcgfaanaaGreatDoor
