/- Expressions, and numbers of which one is made, that came in: what the frames of the statements take out of them. What == says of two expressions; the context of a statement: expressions in blocks of the call's own, and the calls under it. -/
import Derived.Test.YtpnfifhanmpapaaGreatDoorFldLaid
import Derived.Test.YtpnfifhanmpapaaGreatDoorMBitT
import Derived.Test.YtpnfifhanmpapaaGreatDoorMExpF
import Derived.Deep.RegionHeld3
import Derived.Laws.StructEq
/- Expressions, and numbers of which one is made, that came in: what the frames of the statements take out of them. -/
namespace Go.Proofs.YtpnfifhanmpapaaGreatDoor
open Go.ChangeShapes Go.WideShapes Go.ChangeAt Go.RowKit

set_option maxRecDepth 100000 in
theorem open_expr {H : Type} {enc : TypeId × Value → H} {W : World} {base b : Nat} {spare : Nat → Bool} {held : Bool} {r : Reach} {v : Value} {d : DataW H} {p : List MemPlace}
    (hv : Value.okWide Tryz.prog W r b 25 v) (h : DataW.Trod enc Tryz.prog W base spare held 25 v d p) :
    ∃ x : Exp.Ex, v = .agg #[.int .u64 x.a0, .int .u64 x.a1, .int .u64 x.a2, .int .u64 x.a3, .int .u64 x.a4, .int .u64 x.a5, .bool x.b3, .bool x.b5] ∧ x.Bd := by
  obtain ⟨cs, rfl, hsz⟩ := okWide_struct Tryz.underlying25 hv
  obtain ⟨fuel, hf⟩ := h
  obtain ⟨xs, n, _, _, hl, hlen, hg⟩ := DataW.trod_struct Tryz.underlying25 hf
  have c1 : Tryz.prog.cellsOf 23 = 1 := by kernel_rfl
  have c2 : Tryz.prog.cellsOf 4 = 1 := by kernel_rfl
  have c8 : Tryz.prog.cellsOf 25 = 8 := by kernel_rfl
  obtain ⟨l⟩ := cs
  have hl8 : l.length = 8 := by rw [← c8]; simpa [Value.cells] using hl
  have hx8 : xs.length = 8 := hlen
  match l, hl8, xs, hx8 with
  | [v0, v1, v2, v3, v4, v5, v6, v7], _, [x0, x1, x2, x3, x4, x5, x6, x7], _ =>
    have g0 := hg 0 _ rfl
    change DataW.trod enc Tryz.prog W base spare held n 23 (([v0, v1, v2, v3, v4, v5, v6, v7].drop 0).take (Tryz.prog.cellsOf 23)) = some x0 at g0
    rw [c1] at g0
    change DataW.trod enc Tryz.prog W base spare held n 23 [v0] = some x0 at g0
    have g1 := hg 1 _ rfl
    change DataW.trod enc Tryz.prog W base spare held n 23 (([v0, v1, v2, v3, v4, v5, v6, v7].drop 1).take (Tryz.prog.cellsOf 23)) = some x1 at g1
    rw [c1] at g1
    change DataW.trod enc Tryz.prog W base spare held n 23 [v1] = some x1 at g1
    have g2 := hg 2 _ rfl
    change DataW.trod enc Tryz.prog W base spare held n 23 (([v0, v1, v2, v3, v4, v5, v6, v7].drop 2).take (Tryz.prog.cellsOf 23)) = some x2 at g2
    rw [c1] at g2
    change DataW.trod enc Tryz.prog W base spare held n 23 [v2] = some x2 at g2
    have g3 := hg 3 _ rfl
    change DataW.trod enc Tryz.prog W base spare held n 23 (([v0, v1, v2, v3, v4, v5, v6, v7].drop 3).take (Tryz.prog.cellsOf 23)) = some x3 at g3
    rw [c1] at g3
    change DataW.trod enc Tryz.prog W base spare held n 23 [v3] = some x3 at g3
    have g4 := hg 4 _ rfl
    change DataW.trod enc Tryz.prog W base spare held n 23 (([v0, v1, v2, v3, v4, v5, v6, v7].drop 4).take (Tryz.prog.cellsOf 23)) = some x4 at g4
    rw [c1] at g4
    change DataW.trod enc Tryz.prog W base spare held n 23 [v4] = some x4 at g4
    have g5 := hg 5 _ rfl
    change DataW.trod enc Tryz.prog W base spare held n 23 (([v0, v1, v2, v3, v4, v5, v6, v7].drop 5).take (Tryz.prog.cellsOf 23)) = some x5 at g5
    rw [c1] at g5
    change DataW.trod enc Tryz.prog W base spare held n 23 [v5] = some x5 at g5
    have g6 := hg 6 _ rfl
    change DataW.trod enc Tryz.prog W base spare held n 4 (([v0, v1, v2, v3, v4, v5, v6, v7].drop 6).take (Tryz.prog.cellsOf 4)) = some x6 at g6
    rw [c2] at g6
    change DataW.trod enc Tryz.prog W base spare held n 4 [v6] = some x6 at g6
    have g7 := hg 7 _ rfl
    change DataW.trod enc Tryz.prog W base spare held n 4 (([v0, v1, v2, v3, v4, v5, v6, v7].drop 7).take (Tryz.prog.cellsOf 4)) = some x7 at g7
    rw [c2] at g7
    change DataW.trod enc Tryz.prog W base spare held n 4 [v7] = some x7 at g7
    obtain ⟨n0, e0, _, w0⟩ := DataW.trod_int Tryz.underlying23 g0
    obtain ⟨n1, e1, _, w1⟩ := DataW.trod_int Tryz.underlying23 g1
    obtain ⟨n2, e2, _, w2⟩ := DataW.trod_int Tryz.underlying23 g2
    obtain ⟨n3, e3, _, w3⟩ := DataW.trod_int Tryz.underlying23 g3
    obtain ⟨n4, e4, _, w4⟩ := DataW.trod_int Tryz.underlying23 g4
    obtain ⟨n5, e5, _, w5⟩ := DataW.trod_int Tryz.underlying23 g5
    obtain ⟨n6, e6, _⟩ := DataW.trod_bool Tryz.underlying4 g6
    obtain ⟨n7, e7, _⟩ := DataW.trod_bool Tryz.underlying4 g7
    simp only [List.cons.injEq, and_true] at e0 e1 e2 e3 e4 e5 e6 e7
    subst e0 e1 e2 e3 e4 e5 e6 e7
    obtain ⟨m0, rfl, b0⟩ := nat_u64 w0
    obtain ⟨m1, rfl, b1⟩ := nat_u64 w1
    obtain ⟨m2, rfl, b2⟩ := nat_u64 w2
    obtain ⟨m3, rfl, b3⟩ := nat_u64 w3
    obtain ⟨m4, rfl, b4⟩ := nat_u64 w4
    obtain ⟨m5, rfl, b5⟩ := nat_u64 w5
    exact ⟨⟨m0, m1, m2, m3, m4, m5, n6, n7⟩, rfl, fun i hi => six_cases hi (P := fun i => (⟨m0, m1, m2, m3, m4, m5, n6, n7⟩ : Exp.Ex).at i < 2 ^ 64) b0 b1 b2 b3 b4 b5⟩
set_option maxRecDepth 100000 in
theorem open_sets {H : Type} {enc : TypeId × Value → H} {W : World} {base b : Nat} {spare : Nat → Bool} {held : Bool} {r : Reach} {v : Value} {d : DataW H} {p : List MemPlace}
    (hv : Value.okWide Tryz.prog W r b 42 v) (h : DataW.Trod enc Tryz.prog W base spare held 42 v d p) :
    ∃ (z : Exp.Ex) (k : Nat), v = .agg #[.int .u64 z.a0, .int .u64 z.a1, .int .u64 z.a2, .int .u64 z.a3, .int .u64 z.a4, .int .u64 z.a5, .int .u8 k] ∧ z.Bd ∧ k < 256 := by
  obtain ⟨cs, rfl, hsz⟩ := okWide_struct Tryz.underlying42 hv
  obtain ⟨fuel, hf⟩ := h
  obtain ⟨xs, n, _, _, hl, hlen, hg⟩ := DataW.trod_struct Tryz.underlying42 hf
  have c1 : Tryz.prog.cellsOf 23 = 1 := by kernel_rfl
  have c2 : Tryz.prog.cellsOf 5 = 1 := by kernel_rfl
  have c6 : Tryz.prog.cellsOf 40 = 6 := by kernel_rfl
  have c7 : Tryz.prog.cellsOf 42 = 7 := by kernel_rfl
  obtain ⟨l⟩ := cs
  have hl7 : l.length = 7 := by rw [← c7]; simpa [Value.cells] using hl
  have hx2 : xs.length = 2 := hlen
  match l, hl7, xs, hx2 with
  | [v0, v1, v2, v3, v4, v5, v6], _, [xa, xb], _ =>
    have ga := hg 0 _ rfl
    change DataW.trod enc Tryz.prog W base spare held n 40 (([v0, v1, v2, v3, v4, v5, v6].drop 0).take (Tryz.prog.cellsOf 40)) = some xa at ga
    rw [c6] at ga
    change DataW.trod enc Tryz.prog W base spare held n 40 [v0, v1, v2, v3, v4, v5] = some xa at ga
    have gb := hg 1 _ rfl
    change DataW.trod enc Tryz.prog W base spare held n 5 (([v0, v1, v2, v3, v4, v5, v6].drop (Tryz.prog.cellsOf 40)).take (Tryz.prog.cellsOf 5)) = some xb at gb
    rw [c6, c2] at gb
    change DataW.trod enc Tryz.prog W base spare held n 5 [v6] = some xb at gb
    obtain ⟨n6, e6, _, w6⟩ := DataW.trod_int Tryz.underlying5 gb
    obtain ⟨ys, m, _, _, _, hy, hq⟩ := DataW.trod_array Tryz.underlying40 ga
    rw [c1] at hq
    match ys, hy with
    | [x0, x1, x2, x3, x4, x5], _ =>
      have g0 := hq 0 (by decide)
      change DataW.trod enc Tryz.prog W base spare held m 23 [v0] = some x0 at g0
      obtain ⟨n0, e0, _, w0⟩ := DataW.trod_int Tryz.underlying23 g0
      have g1 := hq 1 (by decide)
      change DataW.trod enc Tryz.prog W base spare held m 23 [v1] = some x1 at g1
      obtain ⟨n1, e1, _, w1⟩ := DataW.trod_int Tryz.underlying23 g1
      have g2 := hq 2 (by decide)
      change DataW.trod enc Tryz.prog W base spare held m 23 [v2] = some x2 at g2
      obtain ⟨n2, e2, _, w2⟩ := DataW.trod_int Tryz.underlying23 g2
      have g3 := hq 3 (by decide)
      change DataW.trod enc Tryz.prog W base spare held m 23 [v3] = some x3 at g3
      obtain ⟨n3, e3, _, w3⟩ := DataW.trod_int Tryz.underlying23 g3
      have g4 := hq 4 (by decide)
      change DataW.trod enc Tryz.prog W base spare held m 23 [v4] = some x4 at g4
      obtain ⟨n4, e4, _, w4⟩ := DataW.trod_int Tryz.underlying23 g4
      have g5 := hq 5 (by decide)
      change DataW.trod enc Tryz.prog W base spare held m 23 [v5] = some x5 at g5
      obtain ⟨n5, e5, _, w5⟩ := DataW.trod_int Tryz.underlying23 g5
      simp only [List.cons.injEq, and_true] at e0 e1 e2 e3 e4 e5 e6
      subst e0 e1 e2 e3 e4 e5 e6
      obtain ⟨m0, rfl, b0⟩ := nat_u64 w0
      obtain ⟨m1, rfl, b1⟩ := nat_u64 w1
      obtain ⟨m2, rfl, b2⟩ := nat_u64 w2
      obtain ⟨m3, rfl, b3⟩ := nat_u64 w3
      obtain ⟨m4, rfl, b4⟩ := nat_u64 w4
      obtain ⟨m5, rfl, b5⟩ := nat_u64 w5
      obtain ⟨k, rfl, bk⟩ := nat_u8 w6
      exact ⟨⟨m0, m1, m2, m3, m4, m5, false, false⟩, k, rfl, fun i hi => six_cases hi (P := fun i => (⟨m0, m1, m2, m3, m4, m5, false, false⟩ : Exp.Ex).at i < 2 ^ 64) b0 b1 b2 b3 b4 b5, bk⟩
end Go.Proofs.YtpnfifhanmpapaaGreatDoor
/- What == says of two expressions; the context of a statement: expressions in blocks of the call's own, and the calls under it. -/
namespace Go.Proofs.YtpnfifhanmpapaaGreatDoor
open Go.ChangeShapes Go.WideShapes Go.RowKit Go.Shelf

def same8 (a0 a1 a2 a3 a4 a5 : Int) (b3 b5 : Bool) (c0 c1 c2 c3 c4 c5 : Int) (d3 d5 : Bool) : Bool :=
  a0 == c0 && (a1 == c1 && (a2 == c2 && (a3 == c3 && (a4 == c4 && (a5 == c5 && (b3 == d3 && b5 == d5))))))
theorem same8_t (x : Exp.Ex) : same8 x.a0 x.a1 x.a2 x.a3 x.a4 x.a5 x.b3 x.b5 x.a0 x.a1 x.a2 x.a3 x.a4 x.a5 x.b3 x.b5 = true := by simp [same8]
theorem same8_iff (x y : Exp.Ex) : same8 x.a0 x.a1 x.a2 x.a3 x.a4 x.a5 x.b3 x.b5 y.a0 y.a1 y.a2 y.a3 y.a4 y.a5 y.b3 y.b5 = true ↔ x = y := by
  cases x; cases y; simp [same8, Int.natCast_inj]
theorem same8_f {x y : Exp.Ex} (h : x ≠ y) : same8 x.a0 x.a1 x.a2 x.a3 x.a4 x.a5 x.b3 x.b5 y.a0 y.a1 y.a2 y.a3 y.a4 y.a5 y.b3 y.b5 = false := by
  rw [Bool.eq_false_iff]; exact fun k => h ((same8_iff x y).1 k)
set_option maxHeartbeats 2000000 in
@[go_sem] theorem eqExpr (a0 a1 a2 a3 a4 a5 : Int) (b3 b5 : Bool) (c0 c1 c2 c3 c4 c5 : Int) (d3 d5 : Bool) (w : World) : (Op.equalIn 10000 25 (.agg #[.int .u64 a0, .int .u64 a1, .int .u64 a2, .int .u64 a3, .int .u64 a4, .int .u64 a5, .bool b3, .bool b5]) (.agg #[.int .u64 c0, .int .u64 c1, .int .u64 c2, .int .u64 c3, .int .u64 c4, .int .u64 c5, .bool d3, .bool d5])).run Tryz.prog w = .ok (same8 a0 a1 a2 a3 a4 a5 b3 b5 c0 c1 c2 c3 c4 c5 d3 d5) w := by
  have u1 := Tryz.underlying23
  have u2 := Tryz.underlying4
  have g1 := Tryz.isAgg23
  have g2 := Tryz.isAgg4
  have z1 := Tryz.sizeOf23
  have z2 := Tryz.sizeOf4
  have hS : Tryz.prog.underlying 25 = some (.struct (Tryz.prog.fieldsOf 25)) := by kernel_rfl
  have hp : Tryz.prog.stoodInHeld 25 = false := by kernel_rfl
  rw [show (10000 : Nat) = 9999 + 1 from rfl, run_equalIn_agg w 9999 25 _ _ hS hp]
  simp only [Program.fieldsOf, Tryz.underlying25]
  go_simp
  by_cases h0 : a0 = c0 <;> by_cases h1 : a1 = c1 <;> by_cases h2 : a2 = c2 <;> by_cases h3 : a3 = c3 <;> by_cases h4 : a4 = c4 <;> by_cases h5 : a5 = c5 <;> cases b3 <;> cases d3 <;> cases b5 <;> cases d5 <;> simp [h0, h1, h2, h3, h4, h5, same8]

/-- the context: expressions in blocks -/
structure XC (w : World) (l : List (Nat × Exp.Ex)) (W : World) : Prop where
  below : Below w.heap.size w W
  lay : Lay W
  rows : ∀ p ∈ l, Row W p.1 25 (exL p.2)
theorem XC.next {w W W' : World} {l : List (Nat × Exp.Ex)} (h : XC w l W) (hb : Below W.heap.size W W') : XC w l W' := ⟨h.below.trans (hb.mono h.below.size), h.lay.below hb, fun p hp => (h.rows p hp).below hb⟩
theorem XC.drew {w W : World} {l : List (Nat × Exp.Ex)} (h : XC w l W) : XC w l W.drew := h.next (Below.refl _ _).drew
theorem XC.drewN {w W : World} {l : List (Nat × Exp.Ex)} (h : XC w l W) (n : Nat) : XC w l (W.drewN n) := h.next (below_drewN _ W n)
theorem XC.alloc {w W : World} {l : List (Nat × Exp.Ex)} (h : XC w l W) (o : Obj) : XC w l (W.alloc o) := h.next ((Below.refl _ _).alloc (Nat.le_refl _) o)
theorem XC.box {w W : World} {l : List (Nat × Exp.Ex)} (h : XC w l W) (x : Exp.Ex) : XC w ((W.heap.size, x) :: l) (W.alloc (.cells #[.int .u64 x.a0, .int .u64 x.a1, .int .u64 x.a2, .int .u64 x.a3, .int .u64 x.a4, .int .u64 x.a5, .bool x.b3, .bool x.b5] 25)) := by
  refine ⟨(h.alloc _).below, (h.alloc _).lay, fun p hp => ?_⟩
  rcases List.mem_cons.1 hp with rfl | hp
  · exact Row.new W (exL x) _
  · exact (h.rows p hp).alloc _
theorem XC.start {w : World} (L : Lay w) : XC w [] w := ⟨Below.refl _ _, L, fun _ h => by cases h⟩
theorem XC.cells {w W : World} {l : List (Nat × Exp.Ex)} (h : XC w l W) (B : Nat) (x : Exp.Ex) (hm : (B, x) ∈ l) : W.cell? ⟨B, 0, none⟩ = some (.int .u64 x.a0) ∧ W.cell? ⟨B, 1, none⟩ = some (.int .u64 x.a1) ∧ W.cell? ⟨B, 2, none⟩ = some (.int .u64 x.a2) ∧ W.cell? ⟨B, 3, none⟩ = some (.int .u64 x.a3) ∧ W.cell? ⟨B, 4, none⟩ = some (.int .u64 x.a4) ∧ W.cell? ⟨B, 5, none⟩ = some (.int .u64 x.a5) ∧ W.cell? ⟨B, 6, none⟩ = some (.bool x.b3) ∧ W.cell? ⟨B, 7, none⟩ = some (.bool x.b5) := by
  have r := h.rows _ hm
  exact ⟨r.cell 0, r.cell 1, r.cell 2, r.cell 3, r.cell 4, r.cell 5, r.cell 6, r.cell 7⟩
theorem XC.box0 {w W : World} {l : List (Nat × Exp.Ex)} (h : XC w l W) : XC w ((W.heap.size, Exp.zero) :: l) (W.alloc (.cells #[.int .u64 0, .int .u64 0, .int .u64 0, .int .u64 0, .int .u64 0, .int .u64 0, .bool false, .bool false] 25)) := h.box Exp.zero
theorem XC.cells0 {w W : World} {l : List (Nat × Exp.Ex)} (h : XC w l W) (B : Nat) (hm : (B, Exp.zero) ∈ l) : W.cell? ⟨B, 0, none⟩ = some (.int .u64 0) ∧ W.cell? ⟨B, 1, none⟩ = some (.int .u64 0) ∧ W.cell? ⟨B, 2, none⟩ = some (.int .u64 0) ∧ W.cell? ⟨B, 3, none⟩ = some (.int .u64 0) ∧ W.cell? ⟨B, 4, none⟩ = some (.int .u64 0) ∧ W.cell? ⟨B, 5, none⟩ = some (.int .u64 0) ∧ W.cell? ⟨B, 6, none⟩ = some (.bool false) ∧ W.cell? ⟨B, 7, none⟩ = some (.bool false) := h.cells B Exp.zero hm

theorem XC.works {w W : World} {l : List (Nat × Exp.Ex)} (h : XC w l W) :
    Calls Tryz.prog 12 #[] W fun e W' => e = .returned (.bool true) ∧ XC w l W' :=
  (works_any W h.lay).mono fun _ _ ⟨h1, h2⟩ => ⟨h1, h.next h2⟩
theorem XC.parse {w W : World} {l : List (Nat × Exp.Ex)} (h : XC w l W) (s : ByteArray) (hs : s.size ≤ 100000) (x : Exp.Ex) (a e : Nat) (hr : Exp.parse s.data.toList = (x, a, e)) :
    Calls Tryz.prog 13 #[.string s] W fun r W' => r = .returned (.tuple #[.agg #[.int .u64 x.a0, .int .u64 x.a1, .int .u64 x.a2, .int .u64 x.a3, .int .u64 x.a4, .int .u64 x.a5, .bool x.b3, .bool x.b5], .int .i64 a, .int .i64 e]) ∧ XC w l W' :=
  (parse_any s hs x a e hr W).mono fun _ _ ⟨h1, h2⟩ => ⟨h1, h.next h2⟩
theorem XC.normal {w W : World} {l : List (Nat × Exp.Ex)} (h : XC w l W) (s : ByteArray) (hs : s.size ≤ 100000) (t : ByteArray) (a e : Nat) (hr : Exp.norm s.data.toList = (t.data.toList, a, e)) :
    Calls Tryz.prog 15 #[.string s] W fun r W' => r = .returned (.tuple #[.string t, .int .i64 a, .int .i64 e]) ∧ XC w l W' :=
  (normal_any s hs t.data.toList a e hr W h.lay).mono fun _ _ ⟨h1, h2⟩ => ⟨h1, h.next h2⟩
theorem XC.check {w W : World} {l : List (Nat × Exp.Ex)} (h : XC w l W) (x : Exp.Ex) (hx : x.Ok) :
    Calls Tryz.prog 23 #[.agg #[.int .u64 x.a0, .int .u64 x.a1, .int .u64 x.a2, .int .u64 x.a3, .int .u64 x.a4, .int .u64 x.a5, .bool x.b3, .bool x.b5]] W fun e W' => e = .returned (.int .i64 0) ∧ XC w l W' :=
  (check_ex x hx.bd W).mono fun _ _ ⟨h1, h2⟩ => ⟨by rw [h1, okB_ok hx]; rfl, h.next h2⟩
theorem XC.print {w W : World} {l : List (Nat × Exp.Ex)} (h : XC w l W) (x : Exp.Ex) (hx : x.Ok) (t : ByteArray) (ht : x.text = t.data.toList) :
    Calls Tryz.prog 19 #[.agg #[.int .u64 x.a0, .int .u64 x.a1, .int .u64 x.a2, .int .u64 x.a3, .int .u64 x.a4, .int .u64 x.a5, .bool x.b3, .bool x.b5]] W fun r W' => r = .returned (.tuple #[.string t, .int .i64 0]) ∧ XC w l W' :=
  (print_exyes x hx W h.lay).mono fun _ _ ⟨h1, h2⟩ => ⟨by rw [h1, ht], h.next h2⟩
end Go.Proofs.YtpnfifhanmpapaaGreatDoor
