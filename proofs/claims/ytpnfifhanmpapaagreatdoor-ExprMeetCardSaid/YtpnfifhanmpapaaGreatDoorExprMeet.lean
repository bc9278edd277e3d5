/- For all numbers of which two valid expressions are made, and all lists of dates and times of day, ExprMeet returns true: what Both returns is valid, and matches just where both match; if it returns false, they do not match together; the order of both does not matter. Condition: the program's tables start as its text lays them (tied). -/
import Derived.Test.YtpnfifhanmpapaaGreatDoorMExpG
import Derived.Test.YtpnfifhanmpapaaGreatDoorExpBoth
import Derived.Test.YtpnfifhanmpapaaGreatDoorExpMa
import Derived.Test.YtpnfifhanmpapaaGreatDoorMExpE
namespace Go.Proofs.YtpnfifhanmpapaaGreatDoor.exprMeet
open Go.ChangeShapes Go.WideShapes Go.ChangeAt Go.RowKit Go.ChangeMaps

/-- rows of six small numbers that came in -/
def R6 (W : World) (a : Option Addr) (len cap : Nat) : Prop :=
  (a = none ∧ len = 0 ∧ cap = 0) ∨ ∃ x : Addr, a = some x ∧ len ≤ cap ∧ cap ≤ 9223372036854775807 ∧
    (0 < len → ∃ b o, x = ⟨b, o, none⟩ ∧ b < W.heap.size ∧ ∀ i, i < len → ∀ j, j < 6 → ∃ n : Nat, n < 256 ∧ W.cell? ⟨b, o + (i * 6 + j), none⟩ = some (.int .u8 n))
set_option maxRecDepth 100000 in
theorem open_rows6 {H : Type} {enc : TypeId × Value → H} {W : World} {base fuel : Nat} {spare : Nat → Bool} {held : Bool} {a : Option Addr} {len cap : Nat} {x : DataW H × List MemPlace}
    (h : DataW.trod enc Tryz.prog W base spare held fuel 61 [.slice a len cap] = some x) : R6 W a len cap := by
  have c6 : Tryz.prog.cellsOf 64 = 6 := by kernel_rfl
  have c1 : Tryz.prog.cellsOf 5 = 1 := by kernel_rfl
  rcases DataW.trod_slice Tryz.underlying61 h with ⟨h0, _⟩ | ⟨p, l, c, elems, rest, n, _, hcs, _, hb, hl, hm, hlen, hel, _, _⟩
  · simp at h0
    exact .inl h0
  · simp at hcs
    obtain ⟨rfl, rfl, rfl⟩ := hcs
    refine .inr ⟨p, rfl, hl, by unfold maxLen at hm; omega, fun h0 => ?_⟩
    have each : ∀ i, i < len → ∃ v0 v1 v2 v3 v4 v5 : Value, W.cells? base (p.add (i * 6)) 6 = some [v0, v1, v2, v3, v4, v5] ∧ ∀ (j : Nat) (u : Value), [v0, v1, v2, v3, v4, v5][j]? = some u → ∃ n : Nat, n < 256 ∧ u = Value.int .u8 n := by
      intro i hi
      have q := hel i hi
      rw [c6, List.getElem?_eq_getElem (by omega), Option.bind_eq_some_iff] at q
      obtain ⟨cs, hcs, hq⟩ := q
      obtain ⟨ys, m, _, _, hl6, hy, hq⟩ := DataW.trod_array Tryz.underlying64 hq
      have l6 : cs.length = 6 := by rw [← c6]; exact hl6
      match cs, l6 with
      | [v0, v1, v2, v3, v4, v5], _ =>
        refine ⟨v0, v1, v2, v3, v4, v5, hcs, fun j u hj => ?_⟩
        rw [c1] at hq
        match ys, hy with
        | [x0, x1, x2, x3, x4, x5], _ =>
          have one : ∀ {v : Value} {y : DataW H × List MemPlace}, DataW.trod enc Tryz.prog W base spare held m 5 [v] = some y → ∃ n : Nat, n < 256 ∧ v = .int .u8 n := fun g => by
            obtain ⟨z, e, _, w0⟩ := DataW.trod_int Tryz.underlying5 g
            obtain ⟨n, rfl, hn⟩ := nat_u8 w0
            simp only [List.cons.injEq, and_true] at e
            exact ⟨n, hn, e⟩
          have hj6 : j < 6 := (List.getElem?_eq_some_iff.1 hj).1
          have g := hq j hj6
          rcases (show j = 0 ∨ j = 1 ∨ j = 2 ∨ j = 3 ∨ j = 4 ∨ j = 5 by omega) with rfl | rfl | rfl | rfl | rfl | rfl <;> (cases hj; exact one g)
    obtain ⟨b, o, s⟩ := p
    have cell : ∀ i, i < len → ∀ j, j < 6 → ∃ n : Nat, n < 256 ∧ W.cell? ((Addr.add ⟨b, o, s⟩ (i * 6)).add j) = some (.int .u8 n) := by
      intro i hi j hj
      obtain ⟨v0, v1, v2, v3, v4, v5, hc, hv⟩ := each i hi
      have q := (World.cells?_some hc).2.2 j hj
      obtain ⟨u, hu⟩ : ∃ u, [v0, v1, v2, v3, v4, v5][j]? = some u := ⟨_, List.getElem?_eq_getElem hj⟩
      obtain ⟨n, hn, e⟩ := hv j u hu
      refine ⟨n, hn, ?_⟩
      rw [q, hu, e]
    have hs : s = none := by
      obtain ⟨n, _, q⟩ := cell 0 h0 0 (by decide)
      simpa [Addr.add] using World.cell?_spot q
    subst hs
    have fl : ∀ i j, ((Addr.add ⟨b, o, none⟩ (i * 6)).add j) = ⟨b, o + (i * 6 + j), none⟩ := fun i j => by
      rw [add_flat, add_flat, Nat.add_assoc]
    refine ⟨b, o, rfl, ?_, fun i hi j hj => by have := cell i hi j hj; rw [fl] at this; exact this⟩
    obtain ⟨n, _, q⟩ := cell 0 h0 0 (by decide)
    rw [fl] at q
    exact Lib.lt_of_cell q

/-- the world while both are made: the two sets in blocks of the call's own -/
structure MW (w : World) (L1 L2 : List Value) (W : World) : Prop where
  below : Below w.heap.size w W
  r1 : Row W w.heap.size 42 L1
  r2 : Row W (w.heap.size + 1) 42 L2
theorem MW.next {w W W' : World} {L1 L2 : List Value} (h : MW w L1 L2 W) (hb : Below W.heap.size W W') : MW w L1 L2 W' := ⟨h.below.trans (hb.mono h.below.size), h.r1.below hb, h.r2.below hb⟩
/-- a block of an expression's cells -/
def EB (w W : World) (v : Value) (cs : List Value) : Prop := ∃ B, v = .pointer (some ⟨B, 0, none⟩) ∧ w.heap.size + 1 < B ∧ Row W B 25 cs
theorem EB.next {w W W' : World} {v : Value} {cs : List Value} (h : EB w W v cs) (hb : Below W.heap.size W W') : EB w W' v cs := by
  obtain ⟨B, e, l, r⟩ := h
  exact ⟨B, e, l, r.below hb⟩
theorem EB.other {w W : World} {v : Value} {cs : List Value} {B : Nat} (h : EB w W v cs) (hn : v ≠ .pointer (some ⟨B, 0, none⟩)) (v0 v1 v2 v3 v4 v5 v6 v7 : Value) : EB w ((((((((W.setCell ⟨B, 0, none⟩ v0).setCell ⟨B, 1, none⟩ v1).setCell ⟨B, 2, none⟩ v2).setCell ⟨B, 3, none⟩ v3).setCell ⟨B, 4, none⟩ v4).setCell ⟨B, 5, none⟩ v5).setCell ⟨B, 6, none⟩ v6).setCell ⟨B, 7, none⟩ v7) v cs := by
  obtain ⟨C, rfl, l, r⟩ := h
  have ne : C ≠ B := fun e => hn (by rw [e])
  exact ⟨C, rfl, l, r.grown (set8_grown W B v0 v1 v2 v3 v4 v5 v6 v7) ne⟩
theorem MW.set8 {w W : World} {L1 L2 : List Value} (h : MW w L1 L2 W) {B : Nat} (hB : w.heap.size + 1 < B) (v0 v1 v2 v3 v4 v5 v6 v7 : Value) : MW w L1 L2 ((((((((W.setCell ⟨B, 0, none⟩ v0).setCell ⟨B, 1, none⟩ v1).setCell ⟨B, 2, none⟩ v2).setCell ⟨B, 3, none⟩ v3).setCell ⟨B, 4, none⟩ v4).setCell ⟨B, 5, none⟩ v5).setCell ⟨B, 6, none⟩ v6).setCell ⟨B, 7, none⟩ v7) := by
  refine ⟨?_, h.r1.grown (set8_grown W B v0 v1 v2 v3 v4 v5 v6 v7) (by omega), h.r2.grown (set8_grown W B v0 v1 v2 v3 v4 v5 v6 v7) (by omega)⟩
  have b := h.below
  repeat' refine bel_cell ?_ (by omega) _ _
  exact b
theorem EB.set8 {w W : World} {B : Nat} {a0 a1 a2 a3 a4 a5 a6 a7 : Value} (hB : w.heap.size + 1 < B) (h : Row W B 25 [a0, a1, a2, a3, a4, a5, a6, a7]) (v0 v1 v2 v3 v4 v5 v6 v7 : Value) : EB w ((((((((W.setCell ⟨B, 0, none⟩ v0).setCell ⟨B, 1, none⟩ v1).setCell ⟨B, 2, none⟩ v2).setCell ⟨B, 3, none⟩ v3).setCell ⟨B, 4, none⟩ v4).setCell ⟨B, 5, none⟩ v5).setCell ⟨B, 6, none⟩ v6).setCell ⟨B, 7, none⟩ v7) (.pointer (some ⟨B, 0, none⟩)) [v0, v1, v2, v3, v4, v5, v6, v7] :=
  ⟨B, rfl, hB, set8_row h v0 v1 v2 v3 v4 v5 v6 v7⟩
theorem EB.new (w W : World) (hb : w.heap.size + 1 < W.heap.size) (cs : List Value) : EB w (W.alloc (.cells cs.toArray 25)) (.pointer (some ⟨W.heap.size, 0, none⟩)) cs := ⟨W.heap.size, rfl, hb, Row.new W cs _⟩
theorem EB.ne {w W : World} {v : Value} {cs : List Value} (h : EB w W v cs) : v ≠ .pointer (some ⟨W.heap.size, 0, none⟩) := by
  obtain ⟨B, rfl, _, r⟩ := h
  intro e
  have l := r.lt
  have q : B = W.heap.size := by injection e with e; injection e with e; injection e
  omega
def MInv (w : World) (z0 z1 a b : Exp.Ex) (c0 c1 : Nat) (sv : Value) (u5 u9 u10 u11 u12 u13 u14 u15 u16 u17 u18 u23 u24 u25 u26 u27 u28 u29 u30 u31 u32 u33 u34 u35 u36 u37 u38 u39 u40 u41 u42 u43 u44 u45 u46 u47 u48 u49 u50 u51 u52 u53 u54 u55 u56 u57 u58 u59 u60 u61 u62 u63 u64 u65 u66 u67 u68 u69 u70 u71 u72 u73 u74 u75 u76 u77 u78 u79 u80 u81 u82 u83 u84 u85 u86 u87 u88 u89 u90 u91 u92 u93 u94 u95 u96 u97 u98 u99 u100 u101 u102 u103 u104 u105 u106 u107 u108 u109 u110 u111 u112 u113 u114 u115 u116 u117 u118 u119 u120 u121 u122 u123 u124 u125 u126 u127 u128 u129 u130 u131 u132 u133 u134 u135 u136 u137 u138 u139 u140 u141 u142 u143 u144 u145 u146 u147 u148 u149 u150 u151 u152 u153 u154 u155 u156 u157 u158 u159 u160 u161 u162 u163 u164 u165 u166 u167 u168 u169 u170 u171 u172 : Value) (g : Nat → Bool) (c : Act) (W : World) : Prop := ∃ v7 v8 v19 v20 v21 v22,
  c = { tmps := #[.agg #[.int .u64 z0.a0, .int .u64 z0.a1, .int .u64 z0.a2, .int .u64 z0.a3, .int .u64 z0.a4, .int .u64 z0.a5, .int .u8 c0], .agg #[.int .u64 z1.a0, .int .u64 z1.a1, .int .u64 z1.a2, .int .u64 z1.a3, .int .u64 z1.a4, .int .u64 z1.a5, .int .u8 c1], sv, .pointer (some ⟨w.heap.size, 0, none⟩), .pointer (some ⟨w.heap.size + 1, 0, none⟩), u5, .bool false, v7, v8, u9, u10, u11, u12, u13, u14, u15, u16, u17, u18, v19, v20, v21, v22, u23, u24, u25, u26, u27, u28, u29, u30, u31, u32, u33, u34, u35, u36, u37, u38, u39, u40, u41, u42, u43, u44, u45, u46, u47, u48, u49, u50, u51, u52, u53, u54, u55, u56, u57, u58, u59, u60, u61, u62, u63, u64, u65, u66, u67, u68, u69, u70, u71, u72, u73, u74, u75, u76, u77, u78, u79, u80, u81, u82, u83, u84, u85, u86, u87, u88, u89, u90, u91, u92, u93, u94, u95, u96, u97, u98, u99, u100, u101, u102, u103, u104, u105, u106, u107, u108, u109, u110, u111, u112, u113, u114, u115, u116, u117, u118, u119, u120, u121, u122, u123, u124, u125, u126, u127, u128, u129, u130, u131, u132, u133, u134, u135, u136, u137, u138, u139, u140, u141, u142, u143, u144, u145, u146, u147, u148, u149, u150, u151, u152, u153, u154, u155, u156, u157, u158, u159, u160, u161, u162, u163, u164, u165, u166, u167, u168, u169, u170, u171, u172], defers := [] } ∧ (MW w [.int .u64 z0.a0, .int .u64 z0.a1, .int .u64 z0.a2, .int .u64 z0.a3, .int .u64 z0.a4, .int .u64 z0.a5, .int .u8 c0] [.int .u64 z1.a0, .int .u64 z1.a1, .int .u64 z1.a2, .int .u64 z1.a3, .int .u64 z1.a4, .int .u64 z1.a5, .int .u8 c1] W ∧ (g 6 = true → g 4 = true) ∧ (g 7 = true → g 5 = true) ∧ (g 4 = true → g 5 = true → v7 ≠ v8)) ∧ (g 0 = true → v19 = .agg #[.int .u64 z0.a0, .int .u64 z0.a1, .int .u64 z0.a2, .int .u64 z0.a3, .int .u64 z0.a4, .int .u64 z0.a5, .int .u8 c0]) ∧ (g 1 = true → v20 = .agg #[.int .u64 a.a0, .int .u64 a.a1, .int .u64 a.a2, .int .u64 a.a3, .int .u64 a.a4, .int .u64 a.a5, .bool a.b3, .bool a.b5]) ∧ (g 2 = true → v21 = .agg #[.int .u64 z1.a0, .int .u64 z1.a1, .int .u64 z1.a2, .int .u64 z1.a3, .int .u64 z1.a4, .int .u64 z1.a5, .int .u8 c1]) ∧ (g 3 = true → v22 = .agg #[.int .u64 b.a0, .int .u64 b.a1, .int .u64 b.a2, .int .u64 b.a3, .int .u64 b.a4, .int .u64 b.a5, .bool b.b3, .bool b.b5]) ∧ (g 4 = true → EB w W v7 (if g 6 = true then [.int .u64 a.a0, .int .u64 a.a1, .int .u64 a.a2, .int .u64 a.a3, .int .u64 a.a4, .int .u64 a.a5, .bool a.b3, .bool a.b5] else [.int .u64 0, .int .u64 0, .int .u64 0, .int .u64 0, .int .u64 0, .int .u64 0, .bool false, .bool false])) ∧ (g 5 = true → EB w W v8 (if g 7 = true then [.int .u64 b.a0, .int .u64 b.a1, .int .u64 b.a2, .int .u64 b.a3, .int .u64 b.a4, .int .u64 b.a5, .bool b.b3, .bool b.b5] else [.int .u64 0, .int .u64 0, .int .u64 0, .int .u64 0, .int .u64 0, .int .u64 0, .bool false, .bool false]))
def p6 (r0 r1 r2 r3 r4 r5 : Nat) (i : Nat) : Nat := match i with
  | 0 => r0
  | 1 => r1
  | 2 => r2
  | 3 => r3
  | 4 => r4
  | _ => r5
theorem day_in : ∀ v, v < 31 → (Exp.fl 3).testBit (1 + v) = true := by
  have h : ∀ v : Fin 31, (Exp.fl 3).testBit (1 + v.1) = true := by decide +kernel
  exact fun v hv => h ⟨v, hv⟩
theorem week_in : ∀ v, v < 7 → (Exp.fl 5).testBit v = true := by
  have h : ∀ v : Fin 7, (Exp.fl 5).testBit v.1 = true := by decide +kernel
  exact fun v hv => h ⟨v, hv⟩
theorem mt {x : Exp.Ex} (hx : x.Bd) {r0 r1 r2 r3 r4 r5 : Nat} {m : Bool} (hm : x.mat (p6 r0 r1 r2 r3 r4 r5) = m) (w : World) :
    Calls Tryz.prog 33 #[.agg #[.int .u64 x.a0, .int .u64 x.a1, .int .u64 x.a2, .int .u64 x.a3, .int .u64 x.a4, .int .u64 x.a5, .bool x.b3, .bool x.b5], .agg #[.int .i64 r0, .int .i64 r1, .int .i64 r2, .int .i64 r3, .int .i64 r4, .int .i64 r5]] w fun e w' => e = .returned (.bool m) ∧ Below w.heap.size w w' :=
  matches_any x hx (p6 r0 r1 r2 r3 r4 r5) m hm w
theorem zero_same {x : Exp.Ex} (h : x = Exp.zero) : same8 x.a0 x.a1 x.a2 x.a3 x.a4 x.a5 x.b3 x.b5 0 0 0 0 0 0 false false = true := by subst h; rfl
theorem rem_nat (n d : Nat) : Int.tmod (n : Int) (d : Int) = ((n % d : Nat) : Int) := by
  rw [Int.tmod_eq_emod_of_nonneg (by omega)]
  omega

set_option linter.unusedSimpArgs false in
set_option maxRecDepth 100000 in
set_option maxHeartbeats 16000000 in
theorem walk (z0 : Exp.Ex) (c0 : Nat) (z1 : Exp.Ex) (c1 : Nat) (sa : Option Addr) (len cap : Nat) (w : World) (L : Lay w) (hz0 : z0.Bd) (hc0 : c0 < 256) (hz1 : z1.Bd) (hc1 : c1 < 256) (hs : R6 w sa len cap) :
    Calls Tryz.prog 8 #[.agg #[.int .u64 z0.a0, .int .u64 z0.a1, .int .u64 z0.a2, .int .u64 z0.a3, .int .u64 z0.a4, .int .u64 z0.a5, .int .u8 c0], .agg #[.int .u64 z1.a0, .int .u64 z1.a1, .int .u64 z1.a2, .int .u64 z1.a3, .int .u64 z1.a4, .int .u64 z1.a5, .int .u8 c1], .slice sa len cap] w fun e w' => e = .returned (.bool true) ∧ Below w.heap.size w w' := by
  obtain ⟨a, ha⟩ : ∃ a, Exp.made z0 c0 = a := ⟨_, rfl⟩
  obtain ⟨b, hb⟩ : ∃ b, Exp.made z1 c1 = b := ⟨_, rfl⟩
  have oa : a.Ok := by rw [← ha]; exact Exp.made_ok z0 c0
  have ob : b.Ok := by rw [← hb]; exact Exp.made_ok z1 c1
  have MA := Lib.hid (fun W : World => made_any z0 hz0 c0 hc0 W a ha)
  have MB := Lib.hid (fun W : World => made_any z1 hz1 c1 hc1 W b hb)
  obtain ⟨x, y, is, e, h1, h2, H⟩ := Exp.both_meet oa ob (okB_ok oa) (okB_ok ob)
  have BA := Lib.hid (fun W : World => both_any a b oa.bd ob.bd W x is e h1)
  have BB := Lib.hid (fun W : World => both_any b a ob.bd oa.bd W y is e h2)
  have HH := Lib.hid H
  have LL := Lib.hid L
  have HS := Lib.hid hs
  have OA := Lib.hid oa
  have OB := Lib.hid ob
  have M0 : MW w [.int .u64 z0.a0, .int .u64 z0.a1, .int .u64 z0.a2, .int .u64 z0.a3, .int .u64 z0.a4, .int .u64 z0.a5, .int .u8 c0] [.int .u64 z1.a0, .int .u64 z1.a1, .int .u64 z1.a2, .int .u64 z1.a3, .int .u64 z1.a4, .int .u64 z1.a5, .int .u8 c1] ((w.alloc (.cells #[.int .u64 z0.a0, .int .u64 z0.a1, .int .u64 z0.a2, .int .u64 z0.a3, .int .u64 z0.a4, .int .u64 z0.a5, .int .u8 c0] 42)).alloc (.cells #[.int .u64 z1.a0, .int .u64 z1.a1, .int .u64 z1.a2, .int .u64 z1.a3, .int .u64 z1.a4, .int .u64 z1.a5, .int .u8 c1] 42)) := by
    have r1 : Row (w.alloc (.cells ([.int .u64 z0.a0, .int .u64 z0.a1, .int .u64 z0.a2, .int .u64 z0.a3, .int .u64 z0.a4, .int .u64 z0.a5, .int .u8 c0] : List Value).toArray 42)) w.heap.size 42 [.int .u64 z0.a0, .int .u64 z0.a1, .int .u64 z0.a2, .int .u64 z0.a3, .int .u64 z0.a4, .int .u64 z0.a5, .int .u8 c0] := Row.new w _ _
    have r2 : Row ((w.alloc (.cells ([.int .u64 z0.a0, .int .u64 z0.a1, .int .u64 z0.a2, .int .u64 z0.a3, .int .u64 z0.a4, .int .u64 z0.a5, .int .u8 c0] : List Value).toArray 42)).alloc (.cells ([.int .u64 z1.a0, .int .u64 z1.a1, .int .u64 z1.a2, .int .u64 z1.a3, .int .u64 z1.a4, .int .u64 z1.a5, .int .u8 c1] : List Value).toArray 42)) (w.alloc (.cells ([.int .u64 z0.a0, .int .u64 z0.a1, .int .u64 z0.a2, .int .u64 z0.a3, .int .u64 z0.a4, .int .u64 z0.a5, .int .u8 c0] : List Value).toArray 42)).heap.size 42 [.int .u64 z1.a0, .int .u64 z1.a1, .int .u64 z1.a2, .int .u64 z1.a3, .int .u64 z1.a4, .int .u64 z1.a5, .int .u8 c1] := Row.new _ _ _
    rw [World.size_alloc] at r2
    exact ⟨((Below.refl _ w).alloc (Nat.le_refl _) _).alloc (by simp) _, r1.alloc _, r2⟩
  obtain ⟨W1, hW1⟩ : ∃ W1, (w.alloc (.cells #[.int .u64 z0.a0, .int .u64 z0.a1, .int .u64 z0.a2, .int .u64 z0.a3, .int .u64 z0.a4, .int .u64 z0.a5, .int .u8 c0] 42)).alloc (.cells #[.int .u64 z1.a0, .int .u64 z1.a1, .int .u64 z1.a2, .int .u64 z1.a3, .int .u64 z1.a4, .int .u64 z1.a5, .int .u8 c1] 42) = W1 := ⟨_, rfl⟩
  rw [hW1] at M0
  have HQ := Lib.hid (M0.next (Below.refl _ _).drew)
  clear ha hb oa ob h1 h2 H L hs M0 hz0 hz1 hc0 hc1
  go_enter Tryz.func8, Tryz.ntmps8
  go_wp2_with fail
  try rw [hW1]
  clear hW1
  apply wp_region_inv (MInv w z0 z1 a b c0 c1 (.slice sa len cap) _ _ _ _ _ _ _ _ _ _ _ _ _ _ _ _ _ _ _ _ _ _ _ _ _ _ _ _ _ _ _ _ _ _ _ _ _ _ _ _ _ _ _ _ _ _ _ _ _ _ _ _ _ _ _ _ _ _ _ _ _ _ _ _ _ _ _ _ _ _ _ _ _ _ _ _ _ _ _ _ _ _ _ _ _ _ _ _ _ _ _ _ _ _ _ _ _ _ _ _ _ _ _ _ _ _ _ _ _ _ _ _ _ _ _ _ _ _ _ _ _ _ _ _ _ _ _ _ _ _ _ _ _ _ _ _ _ _ _ _ _ _ _ _ _ _ _ _ _ _ _ _ _ _ _ _ _ _ _ _ _) (by kernel_rfl)
  case h0 => exact ⟨_, _, _, _, _, _, rfl, ⟨HQ.out, (fun h => by cases h), (fun h => by cases h), (fun h _ => by cases h)⟩, (fun h => by cases h), (fun h => by cases h), (fun h => by cases h), (fun h => by cases h), (fun h => by cases h), (fun h => by cases h)⟩
  case htopo => kernel_rfl
  case hstep =>
    intro i o g c W ho hI hg hdep K' hK
    obtain ⟨v7, v8, v19, v20, v21, v22, rfl, hM, q0, q1, q2, q3, q4, q5⟩ := hI
    have hi : i < 8 := (Array.getElem?_eq_some_iff.1 ho).1
    rcases (show i = 0 ∨ i = 1 ∨ i = 2 ∨ i = 3 ∨ i = 4 ∨ i = 5 ∨ i = 6 ∨ i = 7 by omega) with rfl | rfl | rfl | rfl | rfl | rfl | rfl | rfl
    · simp only [List.getElem?_toArray, List.getElem?_cons_zero, Option.some.injEq] at ho
      subst ho
      clear hdep
      have y0 := hM.1.r1.cell 0; have y1 := hM.1.r1.cell 1; have y2 := hM.1.r1.cell 2; have y3 := hM.1.r1.cell 3; have y4 := hM.1.r1.cell 4; have y5 := hM.1.r1.cell 5; have y6 := hM.1.r1.cell 6
      simp only [List.getElem?_cons_zero, List.getElem?_cons_succ] at y0 y1 y2 y3 y4 y5 y6
      go_simp
      exact hK.out _ _ ⟨_, _, _, _, _, _, rfl, ⟨hM.1, hM.2.1, hM.2.2.1, hM.2.2.2⟩, fun _ => rfl, q1, q2, q3, q4, q5⟩
    · simp only [List.getElem?_toArray, List.getElem?_cons_zero, List.getElem?_cons_succ, Option.some.injEq] at ho
      subst ho
      have r0 := q0 (hdep ⟨0, .data⟩ (by simp) rfl)
      subst r0
      clear hdep
      go_simp
      refine (MA.out _).mono ?_
      rintro e W2 ⟨rfl, hb⟩
      go_simp
      exact hK.out _ _ ⟨_, _, _, _, _, _, rfl, ⟨hM.1.next hb, hM.2.1, hM.2.2.1, hM.2.2.2⟩, q0, fun _ => rfl, q2, q3, (fun h => (q4 h).next hb), (fun h => (q5 h).next hb)⟩
    · simp only [List.getElem?_toArray, List.getElem?_cons_zero, List.getElem?_cons_succ, Option.some.injEq] at ho
      subst ho
      clear hdep
      have y0 := hM.1.r2.cell 0; have y1 := hM.1.r2.cell 1; have y2 := hM.1.r2.cell 2; have y3 := hM.1.r2.cell 3; have y4 := hM.1.r2.cell 4; have y5 := hM.1.r2.cell 5; have y6 := hM.1.r2.cell 6
      simp only [List.getElem?_cons_zero, List.getElem?_cons_succ] at y0 y1 y2 y3 y4 y5 y6
      go_simp
      exact hK.out _ _ ⟨_, _, _, _, _, _, rfl, ⟨hM.1, hM.2.1, hM.2.2.1, hM.2.2.2⟩, q0, q1, fun _ => rfl, q3, q4, q5⟩
    · simp only [List.getElem?_toArray, List.getElem?_cons_zero, List.getElem?_cons_succ, Option.some.injEq] at ho
      subst ho
      have r2 := q2 (hdep ⟨2, .data⟩ (by simp) rfl)
      subst r2
      clear hdep
      go_simp
      refine (MB.out _).mono ?_
      rintro e W2 ⟨rfl, hb⟩
      go_simp
      exact hK.out _ _ ⟨_, _, _, _, _, _, rfl, ⟨hM.1.next hb, hM.2.1, hM.2.2.1, hM.2.2.2⟩, q0, q1, q2, fun _ => rfl, (fun h => (q4 h).next hb), (fun h => (q5 h).next hb)⟩
    · simp only [List.getElem?_toArray, List.getElem?_cons_zero, List.getElem?_cons_succ, Option.some.injEq] at ho
      subst ho
      clear hdep
      have g6 : g 6 = false := by
        cases e : g 6 with
        | false => rfl
        | true => have := hM.2.1 e; rw [hg] at this; cases this
      have zz := hM.1.r2.lt
      go_simp
      exact hK.out _ _ ⟨_, _, _, _, _, _, rfl, ⟨hM.1.next ((Below.refl _ W).alloc (Nat.le_refl _) _), fun h => rfl, hM.2.2.1, fun _ h5 => ((q5 h5).ne).symm⟩, q0, q1, q2, q3, (fun _ => (show EB w _ _ (if g 6 = true then _ else _) from by rw [g6, if_neg (by simp)]; exact EB.new w W (by omega) [.int .u64 0, .int .u64 0, .int .u64 0, .int .u64 0, .int .u64 0, .int .u64 0, .bool false, .bool false])), (fun h => (q5 h).next ((Below.refl _ W).alloc (Nat.le_refl _) _))⟩
    · simp only [List.getElem?_toArray, List.getElem?_cons_zero, List.getElem?_cons_succ, Option.some.injEq] at ho
      subst ho
      clear hdep
      have g7 : g 7 = false := by
        cases e : g 7 with
        | false => rfl
        | true => have := hM.2.2.1 e; rw [hg] at this; cases this
      have zz := hM.1.r2.lt
      go_simp
      exact hK.out _ _ ⟨_, _, _, _, _, _, rfl, ⟨hM.1.next ((Below.refl _ W).alloc (Nat.le_refl _) _), hM.2.1, fun h => rfl, fun h4 _ => (q4 h4).ne⟩, q0, q1, q2, q3, (fun h => (q4 h).next ((Below.refl _ W).alloc (Nat.le_refl _) _)), (fun _ => (show EB w _ _ (if g 7 = true then _ else _) from by rw [g7, if_neg (by simp)]; exact EB.new w W (by omega) [.int .u64 0, .int .u64 0, .int .u64 0, .int .u64 0, .int .u64 0, .int .u64 0, .bool false, .bool false]))⟩
    · simp only [List.getElem?_toArray, List.getElem?_cons_zero, List.getElem?_cons_succ, Option.some.injEq] at ho
      subst ho
      have r1 := q1 (hdep ⟨1, .data⟩ (by simp) rfl)
      subst r1
      have d4 := hdep ⟨4, .data⟩ (by simp) rfl
      have r4 := q4 d4
      obtain ⟨B7, rfl, l7, w7⟩ := r4
      clear hdep
      simp only [hg, Bool.false_eq_true, if_false] at w7
      have n0 := w7.cell 0; have n1 := w7.cell 1; have n2 := w7.cell 2; have n3 := w7.cell 3; have n4 := w7.cell 4; have n5 := w7.cell 5; have n6 := w7.cell 6; have n7 := w7.cell 7
      have f0 := w7.free 0; have f1 := w7.free 1; have f2 := w7.free 2; have f3 := w7.free 3; have f4 := w7.free 4; have f5 := w7.free 5; have f6 := w7.free 6; have f7 := w7.free 7
      simp only [List.getElem?_cons_zero, List.getElem?_cons_succ] at n0 n1 n2 n3 n4 n5 n6 n7
      go_simp
      exact hK.out _ _ ⟨_, _, _, _, _, _, rfl, ⟨hM.1.set8 l7 (.int .u64 a.a0) (.int .u64 a.a1) (.int .u64 a.a2) (.int .u64 a.a3) (.int .u64 a.a4) (.int .u64 a.a5) (.bool a.b3) (.bool a.b5), fun _ => d4, hM.2.2.1, hM.2.2.2⟩, q0, q1, q2, q3, (fun _ => (show EB w _ _ (if true = true then _ else _) from by rw [if_pos rfl]; exact EB.set8 l7 w7 (.int .u64 a.a0) (.int .u64 a.a1) (.int .u64 a.a2) (.int .u64 a.a3) (.int .u64 a.a4) (.int .u64 a.a5) (.bool a.b3) (.bool a.b5))), (fun h5 => (q5 h5).other (fun e => hM.2.2.2 d4 h5 e.symm) (.int .u64 a.a0) (.int .u64 a.a1) (.int .u64 a.a2) (.int .u64 a.a3) (.int .u64 a.a4) (.int .u64 a.a5) (.bool a.b3) (.bool a.b5))⟩
    · simp only [List.getElem?_toArray, List.getElem?_cons_zero, List.getElem?_cons_succ, Option.some.injEq] at ho
      subst ho
      have r3 := q3 (hdep ⟨3, .data⟩ (by simp) rfl)
      subst r3
      have d5 := hdep ⟨5, .data⟩ (by simp) rfl
      have r5 := q5 d5
      obtain ⟨B8, rfl, l8, w8⟩ := r5
      clear hdep
      simp only [hg, Bool.false_eq_true, if_false] at w8
      have n0 := w8.cell 0; have n1 := w8.cell 1; have n2 := w8.cell 2; have n3 := w8.cell 3; have n4 := w8.cell 4; have n5 := w8.cell 5; have n6 := w8.cell 6; have n7 := w8.cell 7
      have f0 := w8.free 0; have f1 := w8.free 1; have f2 := w8.free 2; have f3 := w8.free 3; have f4 := w8.free 4; have f5 := w8.free 5; have f6 := w8.free 6; have f7 := w8.free 7
      simp only [List.getElem?_cons_zero, List.getElem?_cons_succ] at n0 n1 n2 n3 n4 n5 n6 n7
      go_simp
      exact hK.out _ _ ⟨_, _, _, _, _, _, rfl, ⟨hM.1.set8 l8 (.int .u64 b.a0) (.int .u64 b.a1) (.int .u64 b.a2) (.int .u64 b.a3) (.int .u64 b.a4) (.int .u64 b.a5) (.bool b.b3) (.bool b.b5), hM.2.1, fun _ => d5, hM.2.2.2⟩, q0, q1, q2, q3, (fun h4 => (q4 h4).other (fun e => hM.2.2.2 h4 d5 e) (.int .u64 b.a0) (.int .u64 b.a1) (.int .u64 b.a2) (.int .u64 b.a3) (.int .u64 b.a4) (.int .u64 b.a5) (.bool b.b3) (.bool b.b5)), (fun _ => (show EB w _ _ (if true = true then _ else _) from by rw [if_pos rfl]; exact EB.set8 l8 w8 (.int .u64 b.a0) (.int .u64 b.a1) (.int .u64 b.a2) (.int .u64 b.a3) (.int .u64 b.a4) (.int .u64 b.a5) (.bool b.b3) (.bool b.b5)))⟩
  case hend =>
    intro g c W hI hall
    obtain ⟨v7, v8, v19, v20, v21, v22, rfl, hM, q0, q1, q2, q3, q4, q5⟩ := hI
    have r0 := q0 (hall 0 (by decide))
    subst r0
    have r1 := q1 (hall 1 (by decide))
    subst r1
    have r2 := q2 (hall 2 (by decide))
    subst r2
    have r3 := q3 (hall 3 (by decide))
    subst r3
    have r4 := q4 (hall 4 (by decide))
    have e7 := r4
    have r5 := q5 (hall 5 (by decide))
    have e8 := r5
    clear q0 q1 q2 q3 q4 q5
    have g6 := hall 6 (by decide)
    have g7 := hall 7 (by decide)
    have n78 := hM.2.2.2 (hall 4 (by decide)) (hall 5 (by decide))
    simp only [g6, if_true] at e7
    simp only [g7, if_true] at e8
    obtain ⟨B7, rfl, l7, w7⟩ := e7
    obtain ⟨B8, rfl, l8, w8⟩ := e8
    have X0 : XC w [(B7, a), (B8, b)] W := ⟨hM.1.below, LL.out.below hM.1.below, fun p hp => by
      simp only [List.mem_cons, List.not_mem_nil, or_false] at hp
      rcases hp with rfl | rfl
      · exact w7
      · exact w8⟩
    clear n78 hall g6 g7 hM HQ MA MB LL l7 l8 w7 w8
    have Q := Lib.hid X0
    obtain ⟨c0, c1, c2, c3, c4, c5, c6, c7⟩ := X0.cells B7 a (by simp)
    obtain ⟨d0, d1, d2, d3, d4, d5, d6, d7⟩ := X0.cells B8 b (by simp)
    clear X0
    go_wp2_with fail
    refine (BA.out _).mono ?_
    rintro e' w2 ⟨rfl, hb⟩
    clear c0 c1 c2 c3 c4 c5 c6 c7 d0 d1 d2 d3 d4 d5 d6 d7
    have Qn := Q.out.next hb
    obtain ⟨c0, c1, c2, c3, c4, c5, c6, c7⟩ := Qn.cells B7 a (by simp)
    obtain ⟨d0, d1, d2, d3, d4, d5, d6, d7⟩ := Qn.cells B8 b (by simp)
    have nb7 := (Qn.rows (B7, a) (by simp)).lt
    have nb8 := (Qn.rows (B8, b) (by simp)).lt
    simp only at nb7 nb8
    have m1 : B7 ≠ w2.heap.size := by omega
    have m2 : w2.heap.size ≠ B7 := by omega
    have m3 : B8 ≠ w2.heap.size := by omega
    have m4 : w2.heap.size ≠ B8 := by omega
    have Qb := Qn.box x
    obtain ⟨p0, p1, p2, p3, p4, p5, p6, p7⟩ := Qb.cells B7 a (by simp)
    obtain ⟨q0, q1, q2, q3, q4, q5, q6, q7⟩ := Qb.cells B8 b (by simp)
    have Q := Lib.hid Qb
    clear Qb Qn hb nb7 nb8
    go_wp2_with fail
    obtain ⟨C, hC⟩ : ∃ C, w2.heap.size = C := ⟨_, rfl⟩
    obtain ⟨V2, hV2⟩ : ∃ V2, w2.alloc (.cells #[.int .u64 x.a0, .int .u64 x.a1, .int .u64 x.a2, .int .u64 x.a3, .int .u64 x.a4, .int .u64 x.a5, .bool x.b3, .bool x.b5] 25) = V2 := ⟨_, rfl⟩
    rw [hC, hV2] at Q
    try rw [hV2]
    try rw [hC]
    clear m1 m2 m3 m4 hC hV2
    refine (BB.out _).mono ?_
    rintro e' w3 ⟨rfl, hb⟩
    clear c0 c1 c2 c3 c4 c5 c6 c7 d0 d1 d2 d3 d4 d5 d6 d7 p0 p1 p2 p3 p4 p5 p6 p7 q0 q1 q2 q3 q4 q5 q6 q7
    have Qn := Q.out.next hb
    obtain ⟨c0, c1, c2, c3, c4, c5, c6, c7⟩ := Qn.cells B7 a (by simp)
    obtain ⟨d0, d1, d2, d3, d4, d5, d6, d7⟩ := Qn.cells B8 b (by simp)
    obtain ⟨u0, u1, u2, u3, u4, u5, u6, u7⟩ := Qn.cells C x (by simp)
    have nb7 := (Qn.rows (B7, a) (by simp)).lt
    have nb8 := (Qn.rows (B8, b) (by simp)).lt
    simp only at nb7 nb8
    have m1 : B7 ≠ w3.heap.size := by omega
    have m2 : w3.heap.size ≠ B7 := by omega
    have m3 : B8 ≠ w3.heap.size := by omega
    have m4 : w3.heap.size ≠ B8 := by omega
    have nb9 := (Qn.rows (C, x) (by simp)).lt
    simp only at nb9
    have m5 : C ≠ w3.heap.size := by omega
    have m6 : w3.heap.size ≠ C := by omega
    clear nb9
    have Qb := Qn.box y
    obtain ⟨p0, p1, p2, p3, p4, p5, p6, p7⟩ := Qb.cells B7 a (by simp)
    obtain ⟨q0, q1, q2, q3, q4, q5, q6, q7⟩ := Qb.cells B8 b (by simp)
    obtain ⟨v0, v1, v2, v3, v4, v5, v6, v7⟩ := Qb.cells C x (by simp)
    have Q := Lib.hid Qb
    clear Qb Qn hb nb7 nb8
    clear BA BB
    rcases HH.out with ⟨rfl, rfl, hx, hy, hst⟩ | ⟨rfl, rfl, ox, oy, hmt⟩ | ⟨rfl, rfl, hx, hy, hmt⟩
    · obtain ⟨k0, k1, k2, k3, k4, k5, k6, k7⟩ : x.a0 = 0 ∧ x.a1 = 0 ∧ x.a2 = 0 ∧ x.a3 = 0 ∧ x.a4 = 0 ∧ x.a5 = 0 ∧ x.b3 = false ∧ x.b5 = false := by rw [hx]; exact ⟨rfl, rfl, rfl, rfl, rfl, rfl, rfl, rfl⟩
      obtain ⟨pa, ea⟩ : ∃ v, a.b3 = v := ⟨_, rfl⟩
      obtain ⟨pb, eb⟩ : ∃ v, a.b5 = v := ⟨_, rfl⟩
      obtain ⟨pc, ec⟩ : ∃ v, b.b3 = v := ⟨_, rfl⟩
      obtain ⟨pd, ed⟩ : ∃ v, b.b5 = v := ⟨_, rfl⟩
      rw [ea, eb, ec, ed] at hst
      rw [ea] at p6
      rw [eb] at p7
      rw [ec] at q6
      rw [ed] at q7
      have CE := Lib.hid (fun (W : World) (h : XC w [(w3.heap.size, y), (C, x), (B7, a), (B8, b)] W) => show W.cell? ⟨B7, 6, none⟩ = some (.bool pa) ∧ W.cell? ⟨B7, 7, none⟩ = some (.bool pb) ∧ W.cell? ⟨B8, 6, none⟩ = some (.bool pc) ∧ W.cell? ⟨B8, 7, none⟩ = some (.bool pd) from by
        obtain ⟨_, _, _, _, _, _, i6, i7⟩ := h.cells B7 a (by simp)
        obtain ⟨_, _, _, _, _, _, j6, j7⟩ := h.cells B8 b (by simp)
        rw [ea] at i6
        rw [eb] at i7
        rw [ec] at j6
        rw [ed] at j7
        exact ⟨i6, i7, j6, j7⟩)
      clear ea eb ec ed hx hy HH
      clear c0 c1 c2 c3 c4 c5 c6 c7 d0 d1 d2 d3 d4 d5 d6 d7
      cases pa <;> cases pb <;> cases pc <;> cases pd
      all_goals first
        | (exfalso; revert hst; decide)
        | skip
      all_goals
        clear hst
        go_wp2_with fail
        refine (XC.works Q.out).mono ?_
        rintro e' w9 ⟨rfl, q⟩
        have HB := Lib.hid q.below
        clear q
        go_wp2_with fail
        go_ret
        exact ⟨rfl, HB.out⟩
    · have OX := Lib.hid ox
      have OY := Lib.hid oy
      have HM := Lib.hid hmt
      clear ox oy hmt HH
      go_wp2_with fail
      refine (XC.check Q.out x OX.out).mono ?_
      rintro e' w4 ⟨rfl, q⟩
      clear c0 c1 c2 c3 c4 c5 c6 c7 d0 d1 d2 d3 d4 d5 d6 d7 p0 p1 p2 p3 p4 p5 p6 p7 q0 q1 q2 q3 q4 q5 q6 q7 u0 u1 u2 u3 u4 u5 u6 u7 v0 v1 v2 v3 v4 v5 v6 v7
      have Q := Lib.hid q
      clear q
      obtain ⟨D, hD⟩ : ∃ D, w3.heap.size = D := ⟨_, rfl⟩
      rw [hD] at Q
      try rw [hD]
      clear hD m1 m2 m3 m4 m5 m6
      obtain ⟨c0, c1, c2, c3, c4, c5, c6, c7⟩ := Q.out.cells B7 a (by simp)
      obtain ⟨d0, d1, d2, d3, d4, d5, d6, d7⟩ := Q.out.cells B8 b (by simp)
      obtain ⟨p0, p1, p2, p3, p4, p5, p6, p7⟩ := Q.out.cells C x (by simp)
      obtain ⟨q0, q1, q2, q3, q4, q5, q6, q7⟩ := Q.out.cells D y (by simp)
      go_wp2_with fail
      refine (XC.check Q.out y OY.out).mono ?_
      rintro e' w5 ⟨rfl, q⟩
      clear c0 c1 c2 c3 c4 c5 c6 c7 d0 d1 d2 d3 d4 d5 d6 d7 p0 p1 p2 p3 p4 p5 p6 p7 q0 q1 q2 q3 q4 q5 q6 q7
      have Q := Lib.hid q
      clear q
      rcases HS.out with ⟨rfl, rfl, rfl⟩ | ⟨pp, rfl, lc, cm, hp⟩
      · go_wp2_with fail
        go_loopw [110] (fun it wr => it = .int .i64 0 ∧ Hid (XC w [(D, y), (C, x), (B7, a), (B8, b)] wr)) (fun _ _ => 0)
        case atStart => exact ⟨rfl, Q⟩
        case round =>
          obtain ⟨rfl, Q⟩ := hrel
          go_wp2_with fail
          refine (XC.works Q.out).mono ?_
          rintro e' w9 ⟨rfl, q⟩
          have HB := Lib.hid q.below
          clear q
          go_wp2_with fail
          go_ret
          exact ⟨rfl, HB.out⟩
      · by_cases h0 : len = 0
        · subst h0
          have lc' : (0 : Int) ≤ (cap : Int) := by omega
          clear hp
          go_wp2_with fail
          go_loopw [110] (fun it wr => it = .int .i64 0 ∧ Hid (XC w [(D, y), (C, x), (B7, a), (B8, b)] wr)) (fun _ _ => 0)
          case atStart => exact ⟨rfl, Q⟩
          case round =>
            obtain ⟨rfl, Q⟩ := hrel
            go_wp2_with fail
            refine (XC.works Q.out).mono ?_
            rintro e' w9 ⟨rfl, q⟩
            have HB := Lib.hid q.below
            clear q
            go_wp2_with fail
            go_ret
            exact ⟨rfl, HB.out⟩
        · obtain ⟨bk, o, rfl, hbk, hcell⟩ := hp (by omega)
          have IN := Lib.hid hcell
          have HK := Lib.hid hbk
          clear hcell hp hbk
          obtain ⟨n, nl, n0, hmin⟩ : ∃ n : Nat, n ≤ len ∧ 0 < n ∧ (min (len : Int) 40 = (n : Int)) := ⟨min len 40, by omega, by omega, by omega⟩
          have h3 : (0 : Int) ≤ (n : Int) := by omega
          have h4 : (n : Int) ≤ (cap : Int) := by omega
          have h5 : (n : Int) ≤ (len : Int) := by omega
          go_wp2_with fail
          go_loopw [110] (fun it wr => ∃ k : Nat, k ≤ n ∧ it = .int .i64 k ∧ Hid (XC w [(D, y), (C, x), (B7, a), (B8, b)] wr)) (fun i _ => 1 + n - (intOf i).toNat)
          case atStart => exact ⟨0, Nat.zero_le _, rfl, Q⟩
          case round =>
            obtain ⟨k, hk, rfl, Q⟩ := hrel
            by_cases hlt : k < n
            · have q1 : decide ((k : Int) < (n : Int)) = true := by rw [decide_eq_true_iff]; omega
              have q1n : decide (k < n) = true := by rw [decide_eq_true_iff]; omega
              have i0 : (0 : Int) ≤ (k : Int) := by omega
              have i1 : (k : Int) < (n : Int) := by omega
              obtain ⟨n0, b0, g0⟩ := IN.out k (by omega) 0 (by decide)
              have e0 : wr.cell? ⟨bk, o + k * 6 + 0, none⟩ = some (.int .u8 n0) := by rw [Nat.add_assoc]; exact (Q.out.below.cell (p := ⟨bk, o + (k * 6 + 0), none⟩) (HK.out)).trans g0
              have wv0 : IntKind.i64.wrap (n0 : Int) = (n0 : Int) := by rw [IntKind.wrap_i64]; omega
              have rm0 := rem_nat n0 60
              have rl0 : n0 % 60 < 60 := Nat.mod_lt _ (by decide)
              obtain ⟨r0, hr0⟩ : ∃ r, n0 % 60 = r := ⟨_, rfl⟩
              rw [hr0] at rm0 rl0
              have rn0 : (n0 : Int) % 60 = (r0 : Int) := by omega
              obtain ⟨n1, b1, g1⟩ := IN.out k (by omega) 1 (by decide)
              have e1 : wr.cell? ⟨bk, o + k * 6 + 1, none⟩ = some (.int .u8 n1) := by rw [Nat.add_assoc]; exact (Q.out.below.cell (p := ⟨bk, o + (k * 6 + 1), none⟩) (HK.out)).trans g1
              have wv1 : IntKind.i64.wrap (n1 : Int) = (n1 : Int) := by rw [IntKind.wrap_i64]; omega
              have rm1 := rem_nat n1 60
              have rl1 : n1 % 60 < 60 := Nat.mod_lt _ (by decide)
              obtain ⟨r1, hr1⟩ : ∃ r, n1 % 60 = r := ⟨_, rfl⟩
              rw [hr1] at rm1 rl1
              have rn1 : (n1 : Int) % 60 = (r1 : Int) := by omega
              obtain ⟨n2, b2, g2⟩ := IN.out k (by omega) 2 (by decide)
              have e2 : wr.cell? ⟨bk, o + k * 6 + 2, none⟩ = some (.int .u8 n2) := by rw [Nat.add_assoc]; exact (Q.out.below.cell (p := ⟨bk, o + (k * 6 + 2), none⟩) (HK.out)).trans g2
              have wv2 : IntKind.i64.wrap (n2 : Int) = (n2 : Int) := by rw [IntKind.wrap_i64]; omega
              have rm2 := rem_nat n2 24
              have rl2 : n2 % 24 < 24 := Nat.mod_lt _ (by decide)
              obtain ⟨r2, hr2⟩ : ∃ r, n2 % 24 = r := ⟨_, rfl⟩
              rw [hr2] at rm2 rl2
              have rn2 : (n2 : Int) % 24 = (r2 : Int) := by omega
              obtain ⟨n3, b3, g3⟩ := IN.out k (by omega) 3 (by decide)
              have e3 : wr.cell? ⟨bk, o + k * 6 + 3, none⟩ = some (.int .u8 n3) := by rw [Nat.add_assoc]; exact (Q.out.below.cell (p := ⟨bk, o + (k * 6 + 3), none⟩) (HK.out)).trans g3
              have wv3 : IntKind.i64.wrap (n3 : Int) = (n3 : Int) := by rw [IntKind.wrap_i64]; omega
              have rm3 := rem_nat n3 31
              have rl3 : n3 % 31 < 31 := Nat.mod_lt _ (by decide)
              obtain ⟨r3, hr3⟩ : ∃ r, n3 % 31 = r := ⟨_, rfl⟩
              rw [hr3] at rm3 rl3
              have rn3 : (n3 : Int) % 31 = (r3 : Int) := by omega
              obtain ⟨n4, b4, g4⟩ := IN.out k (by omega) 4 (by decide)
              have e4 : wr.cell? ⟨bk, o + k * 6 + 4, none⟩ = some (.int .u8 n4) := by rw [Nat.add_assoc]; exact (Q.out.below.cell (p := ⟨bk, o + (k * 6 + 4), none⟩) (HK.out)).trans g4
              have wv4 : IntKind.i64.wrap (n4 : Int) = (n4 : Int) := by rw [IntKind.wrap_i64]; omega
              have rm4 := rem_nat n4 12
              have rl4 : n4 % 12 < 12 := Nat.mod_lt _ (by decide)
              obtain ⟨r4, hr4⟩ : ∃ r, n4 % 12 = r := ⟨_, rfl⟩
              rw [hr4] at rm4 rl4
              have rn4 : (n4 : Int) % 12 = (r4 : Int) := by omega
              obtain ⟨n5, b5, g5⟩ := IN.out k (by omega) 5 (by decide)
              have e5 : wr.cell? ⟨bk, o + k * 6 + 5, none⟩ = some (.int .u8 n5) := by rw [Nat.add_assoc]; exact (Q.out.below.cell (p := ⟨bk, o + (k * 6 + 5), none⟩) (HK.out)).trans g5
              have wv5 : IntKind.i64.wrap (n5 : Int) = (n5 : Int) := by rw [IntKind.wrap_i64]; omega
              have rm5 := rem_nat n5 7
              have rl5 : n5 % 7 < 7 := Nat.mod_lt _ (by decide)
              obtain ⟨r5, hr5⟩ : ∃ r, n5 % 7 = r := ⟨_, rfl⟩
              rw [hr5] at rm5 rl5
              have rn5 : (n5 : Int) % 7 = (r5 : Int) := by omega
              rw [Nat.add_zero] at e0
              have t3 := day_in r3 rl3
              have t5 := week_in r5 rl5
              have w3' : IntKind.i64.wrap (1 + (r3 : Int)) = ((1 + r3 : Nat) : Int) := by rw [IntKind.wrap_i64]; omega
              have w4' : IntKind.i64.wrap (1 + (r4 : Int)) = ((1 + r4 : Nat) : Int) := by rw [IntKind.wrap_i64]; omega
              obtain ⟨s3, hs3⟩ : ∃ s, 1 + r3 = s := ⟨_, rfl⟩
              have u3 : 1 + (r3 : Int) = (s3 : Int) := by omega
              obtain ⟨s4, hs4⟩ : ∃ s, 1 + r4 = s := ⟨_, rfl⟩
              have u4 : 1 + (r4 : Int) = (s4 : Int) := by omega
              rw [hs3] at t3 w3'
              rw [hs4] at w4'
              have hm := HM.out (p6 r0 r1 r2 s3 s4 r5) t3 t5
              obtain ⟨ma, hma⟩ : ∃ m, a.mat (p6 r0 r1 r2 s3 s4 r5) = m := ⟨_, rfl⟩
              obtain ⟨mb, hmb⟩ : ∃ m, b.mat (p6 r0 r1 r2 s3 s4 r5) = m := ⟨_, rfl⟩
              rw [hma, hmb] at hm
              have MTA := Lib.hid (fun W : World => mt OA.out.bd hma W)
              have MTB := Lib.hid (fun W : World => mt OB.out.bd hmb W)
              have MTX := Lib.hid (fun W : World => mt OX.out.bd hm.1 W)
              have MTY := Lib.hid (fun W : World => mt OY.out.bd hm.2 W)
              have Qa := (Q.out.alloc (.cells #[.int .u8 n0, .int .u8 n1, .int .u8 n2, .int .u8 n3, .int .u8 n4, .int .u8 n5] 64)).alloc (.cells #[.int .i64 r0, .int .i64 r1, .int .i64 r2, .int .i64 s3, .int .i64 s4, .int .i64 r5] 65)
              have Pa : Row ((wr.alloc (.cells #[.int .u8 n0, .int .u8 n1, .int .u8 n2, .int .u8 n3, .int .u8 n4, .int .u8 n5] 64)).alloc (.cells #[.int .i64 r0, .int .i64 r1, .int .i64 r2, .int .i64 s3, .int .i64 s4, .int .i64 r5] 65)) (wr.heap.size + 1) 65 [.int .i64 r0, .int .i64 r1, .int .i64 r2, .int .i64 s3, .int .i64 s4, .int .i64 r5] := by
                have := Row.new (wr.alloc (.cells #[.int .u8 n0, .int .u8 n1, .int .u8 n2, .int .u8 n3, .int .u8 n4, .int .u8 n5] 64)) [.int .i64 r0, .int .i64 r1, .int .i64 r2, .int .i64 s3, .int .i64 s4, .int .i64 r5] 65
                rw [World.size_alloc] at this
                exact this
              obtain ⟨c0, c1, c2, c3, c4, c5, c6, c7⟩ := Qa.cells B7 a (by simp)
              obtain ⟨d0, d1, d2, d3, d4, d5, d6, d7⟩ := Qa.cells B8 b (by simp)
              obtain ⟨p0, p1, p2, p3, p4, p5, p6, p7⟩ := Qa.cells C x (by simp)
              obtain ⟨q0, q1, q2, q3, q4, q5, q6, q7⟩ := Qa.cells D y (by simp)
              have o0 := Pa.cell 0; have o1 := Pa.cell 1; have o2 := Pa.cell 2; have o3 := Pa.cell 3; have o4 := Pa.cell 4; have o5 := Pa.cell 5; have o6 := 0; have o7 := 0
              simp only [List.getElem?_cons_zero, List.getElem?_cons_succ] at o0 o1 o2 o3 o4 o5
              have Q := Lib.hid Qa
              have P := Lib.hid Pa
              clear Qa Pa b0 g0 hr0 rl0 b1 g1 hr1 rl1 b2 g2 hr2 rl2 b3 g3 hr3 rl3 b4 g4 hr4 rl4 b5 g5 hr5 rl5 hs3 hs4 t3 t5 hma hmb
              cases ma
              · cases mb
                · clear hm
                  go_wp2_with fail
                  refine (MTA.out _).mono ?_
                  rintro e' wa ⟨rfl, hb⟩
                  clear c0 c1 c2 c3 c4 c5 c6 c7 d0 d1 d2 d3 d4 d5 d6 d7 p0 p1 p2 p3 p4 p5 p6 p7 q0 q1 q2 q3 q4 q5 q6 q7 o0 o1 o2 o3 o4 o5 o6 o7
                  have Qn := Q.out.next hb
                  have Pn := P.out.below hb
                  obtain ⟨c0, c1, c2, c3, c4, c5, c6, c7⟩ := Qn.cells B7 a (by simp)
                  obtain ⟨d0, d1, d2, d3, d4, d5, d6, d7⟩ := Qn.cells B8 b (by simp)
                  obtain ⟨p0, p1, p2, p3, p4, p5, p6, p7⟩ := Qn.cells C x (by simp)
                  obtain ⟨q0, q1, q2, q3, q4, q5, q6, q7⟩ := Qn.cells D y (by simp)
                  have o0 := Pn.cell 0; have o1 := Pn.cell 1; have o2 := Pn.cell 2; have o3 := Pn.cell 3; have o4 := Pn.cell 4; have o5 := Pn.cell 5; have o6 := 0; have o7 := 0
                  simp only [List.getElem?_cons_zero, List.getElem?_cons_succ] at o0 o1 o2 o3 o4 o5
                  have Q := Lib.hid Qn
                  have P := Lib.hid Pn
                  clear Qn Pn hb
                  go_wp2_with fail
                  refine (MTX.out _).mono ?_
                  rintro e' wx ⟨rfl, hb⟩
                  clear c0 c1 c2 c3 c4 c5 c6 c7 d0 d1 d2 d3 d4 d5 d6 d7 p0 p1 p2 p3 p4 p5 p6 p7 q0 q1 q2 q3 q4 q5 q6 q7 o0 o1 o2 o3 o4 o5 o6 o7
                  have Qn := Q.out.next hb
                  have Pn := P.out.below hb
                  obtain ⟨c0, c1, c2, c3, c4, c5, c6, c7⟩ := Qn.cells B7 a (by simp)
                  obtain ⟨d0, d1, d2, d3, d4, d5, d6, d7⟩ := Qn.cells B8 b (by simp)
                  obtain ⟨p0, p1, p2, p3, p4, p5, p6, p7⟩ := Qn.cells C x (by simp)
                  obtain ⟨q0, q1, q2, q3, q4, q5, q6, q7⟩ := Qn.cells D y (by simp)
                  have o0 := Pn.cell 0; have o1 := Pn.cell 1; have o2 := Pn.cell 2; have o3 := Pn.cell 3; have o4 := Pn.cell 4; have o5 := Pn.cell 5; have o6 := 0; have o7 := 0
                  simp only [List.getElem?_cons_zero, List.getElem?_cons_succ] at o0 o1 o2 o3 o4 o5
                  have Q := Lib.hid Qn
                  have P := Lib.hid Pn
                  clear Qn Pn hb
                  go_wp2_with fail
                  refine (MTY.out _).mono ?_
                  rintro e' wy ⟨rfl, hb⟩
                  clear c0 c1 c2 c3 c4 c5 c6 c7 d0 d1 d2 d3 d4 d5 d6 d7 p0 p1 p2 p3 p4 p5 p6 p7 q0 q1 q2 q3 q4 q5 q6 q7 o0 o1 o2 o3 o4 o5 o6 o7
                  have Qn := Q.out.next hb
                  have Pn := P.out.below hb
                  obtain ⟨c0, c1, c2, c3, c4, c5, c6, c7⟩ := Qn.cells B7 a (by simp)
                  obtain ⟨d0, d1, d2, d3, d4, d5, d6, d7⟩ := Qn.cells B8 b (by simp)
                  obtain ⟨p0, p1, p2, p3, p4, p5, p6, p7⟩ := Qn.cells C x (by simp)
                  obtain ⟨q0, q1, q2, q3, q4, q5, q6, q7⟩ := Qn.cells D y (by simp)
                  have o0 := Pn.cell 0; have o1 := Pn.cell 1; have o2 := Pn.cell 2; have o3 := Pn.cell 3; have o4 := Pn.cell 4; have o5 := Pn.cell 5; have o6 := 0; have o7 := 0
                  simp only [List.getElem?_cons_zero, List.getElem?_cons_succ] at o0 o1 o2 o3 o4 o5
                  have Q := Lib.hid Qn
                  have P := Lib.hid Pn
                  clear Qn Pn hb
                  go_wp2_with fail
                  go_roundw
                  case rel => exact ⟨k + 1, by omega, by go_num, Q⟩
                  case measure => simp [intOf]; omega
                · clear hm
                  go_wp2_with fail
                  refine (MTA.out _).mono ?_
                  rintro e' wa ⟨rfl, hb⟩
                  clear c0 c1 c2 c3 c4 c5 c6 c7 d0 d1 d2 d3 d4 d5 d6 d7 p0 p1 p2 p3 p4 p5 p6 p7 q0 q1 q2 q3 q4 q5 q6 q7 o0 o1 o2 o3 o4 o5 o6 o7
                  have Qn := Q.out.next hb
                  have Pn := P.out.below hb
                  obtain ⟨c0, c1, c2, c3, c4, c5, c6, c7⟩ := Qn.cells B7 a (by simp)
                  obtain ⟨d0, d1, d2, d3, d4, d5, d6, d7⟩ := Qn.cells B8 b (by simp)
                  obtain ⟨p0, p1, p2, p3, p4, p5, p6, p7⟩ := Qn.cells C x (by simp)
                  obtain ⟨q0, q1, q2, q3, q4, q5, q6, q7⟩ := Qn.cells D y (by simp)
                  have o0 := Pn.cell 0; have o1 := Pn.cell 1; have o2 := Pn.cell 2; have o3 := Pn.cell 3; have o4 := Pn.cell 4; have o5 := Pn.cell 5; have o6 := 0; have o7 := 0
                  simp only [List.getElem?_cons_zero, List.getElem?_cons_succ] at o0 o1 o2 o3 o4 o5
                  have Q := Lib.hid Qn
                  have P := Lib.hid Pn
                  clear Qn Pn hb
                  go_wp2_with fail
                  refine (MTX.out _).mono ?_
                  rintro e' wx ⟨rfl, hb⟩
                  clear c0 c1 c2 c3 c4 c5 c6 c7 d0 d1 d2 d3 d4 d5 d6 d7 p0 p1 p2 p3 p4 p5 p6 p7 q0 q1 q2 q3 q4 q5 q6 q7 o0 o1 o2 o3 o4 o5 o6 o7
                  have Qn := Q.out.next hb
                  have Pn := P.out.below hb
                  obtain ⟨c0, c1, c2, c3, c4, c5, c6, c7⟩ := Qn.cells B7 a (by simp)
                  obtain ⟨d0, d1, d2, d3, d4, d5, d6, d7⟩ := Qn.cells B8 b (by simp)
                  obtain ⟨p0, p1, p2, p3, p4, p5, p6, p7⟩ := Qn.cells C x (by simp)
                  obtain ⟨q0, q1, q2, q3, q4, q5, q6, q7⟩ := Qn.cells D y (by simp)
                  have o0 := Pn.cell 0; have o1 := Pn.cell 1; have o2 := Pn.cell 2; have o3 := Pn.cell 3; have o4 := Pn.cell 4; have o5 := Pn.cell 5; have o6 := 0; have o7 := 0
                  simp only [List.getElem?_cons_zero, List.getElem?_cons_succ] at o0 o1 o2 o3 o4 o5
                  have Q := Lib.hid Qn
                  have P := Lib.hid Pn
                  clear Qn Pn hb
                  go_wp2_with fail
                  refine (MTY.out _).mono ?_
                  rintro e' wy ⟨rfl, hb⟩
                  clear c0 c1 c2 c3 c4 c5 c6 c7 d0 d1 d2 d3 d4 d5 d6 d7 p0 p1 p2 p3 p4 p5 p6 p7 q0 q1 q2 q3 q4 q5 q6 q7 o0 o1 o2 o3 o4 o5 o6 o7
                  have Qn := Q.out.next hb
                  have Pn := P.out.below hb
                  obtain ⟨c0, c1, c2, c3, c4, c5, c6, c7⟩ := Qn.cells B7 a (by simp)
                  obtain ⟨d0, d1, d2, d3, d4, d5, d6, d7⟩ := Qn.cells B8 b (by simp)
                  obtain ⟨p0, p1, p2, p3, p4, p5, p6, p7⟩ := Qn.cells C x (by simp)
                  obtain ⟨q0, q1, q2, q3, q4, q5, q6, q7⟩ := Qn.cells D y (by simp)
                  have o0 := Pn.cell 0; have o1 := Pn.cell 1; have o2 := Pn.cell 2; have o3 := Pn.cell 3; have o4 := Pn.cell 4; have o5 := Pn.cell 5; have o6 := 0; have o7 := 0
                  simp only [List.getElem?_cons_zero, List.getElem?_cons_succ] at o0 o1 o2 o3 o4 o5
                  have Q := Lib.hid Qn
                  have P := Lib.hid Pn
                  clear Qn Pn hb
                  go_wp2_with fail
                  go_roundw
                  case rel => exact ⟨k + 1, by omega, by go_num, Q⟩
                  case measure => simp [intOf]; omega
              · cases mb
                · clear hm
                  go_wp2_with fail
                  refine (MTA.out _).mono ?_
                  rintro e' wa ⟨rfl, hb⟩
                  clear c0 c1 c2 c3 c4 c5 c6 c7 d0 d1 d2 d3 d4 d5 d6 d7 p0 p1 p2 p3 p4 p5 p6 p7 q0 q1 q2 q3 q4 q5 q6 q7 o0 o1 o2 o3 o4 o5 o6 o7
                  have Qn := Q.out.next hb
                  have Pn := P.out.below hb
                  obtain ⟨c0, c1, c2, c3, c4, c5, c6, c7⟩ := Qn.cells B7 a (by simp)
                  obtain ⟨d0, d1, d2, d3, d4, d5, d6, d7⟩ := Qn.cells B8 b (by simp)
                  obtain ⟨p0, p1, p2, p3, p4, p5, p6, p7⟩ := Qn.cells C x (by simp)
                  obtain ⟨q0, q1, q2, q3, q4, q5, q6, q7⟩ := Qn.cells D y (by simp)
                  have o0 := Pn.cell 0; have o1 := Pn.cell 1; have o2 := Pn.cell 2; have o3 := Pn.cell 3; have o4 := Pn.cell 4; have o5 := Pn.cell 5; have o6 := 0; have o7 := 0
                  simp only [List.getElem?_cons_zero, List.getElem?_cons_succ] at o0 o1 o2 o3 o4 o5
                  have Q := Lib.hid Qn
                  have P := Lib.hid Pn
                  clear Qn Pn hb
                  go_wp2_with fail
                  refine (MTB.out _).mono ?_
                  rintro e' wb ⟨rfl, hb⟩
                  clear c0 c1 c2 c3 c4 c5 c6 c7 d0 d1 d2 d3 d4 d5 d6 d7 p0 p1 p2 p3 p4 p5 p6 p7 q0 q1 q2 q3 q4 q5 q6 q7 o0 o1 o2 o3 o4 o5 o6 o7
                  have Qn := Q.out.next hb
                  have Pn := P.out.below hb
                  obtain ⟨c0, c1, c2, c3, c4, c5, c6, c7⟩ := Qn.cells B7 a (by simp)
                  obtain ⟨d0, d1, d2, d3, d4, d5, d6, d7⟩ := Qn.cells B8 b (by simp)
                  obtain ⟨p0, p1, p2, p3, p4, p5, p6, p7⟩ := Qn.cells C x (by simp)
                  obtain ⟨q0, q1, q2, q3, q4, q5, q6, q7⟩ := Qn.cells D y (by simp)
                  have o0 := Pn.cell 0; have o1 := Pn.cell 1; have o2 := Pn.cell 2; have o3 := Pn.cell 3; have o4 := Pn.cell 4; have o5 := Pn.cell 5; have o6 := 0; have o7 := 0
                  simp only [List.getElem?_cons_zero, List.getElem?_cons_succ] at o0 o1 o2 o3 o4 o5
                  have Q := Lib.hid Qn
                  have P := Lib.hid Pn
                  clear Qn Pn hb
                  go_wp2_with fail
                  refine (MTX.out _).mono ?_
                  rintro e' wx ⟨rfl, hb⟩
                  clear c0 c1 c2 c3 c4 c5 c6 c7 d0 d1 d2 d3 d4 d5 d6 d7 p0 p1 p2 p3 p4 p5 p6 p7 q0 q1 q2 q3 q4 q5 q6 q7 o0 o1 o2 o3 o4 o5 o6 o7
                  have Qn := Q.out.next hb
                  have Pn := P.out.below hb
                  obtain ⟨c0, c1, c2, c3, c4, c5, c6, c7⟩ := Qn.cells B7 a (by simp)
                  obtain ⟨d0, d1, d2, d3, d4, d5, d6, d7⟩ := Qn.cells B8 b (by simp)
                  obtain ⟨p0, p1, p2, p3, p4, p5, p6, p7⟩ := Qn.cells C x (by simp)
                  obtain ⟨q0, q1, q2, q3, q4, q5, q6, q7⟩ := Qn.cells D y (by simp)
                  have o0 := Pn.cell 0; have o1 := Pn.cell 1; have o2 := Pn.cell 2; have o3 := Pn.cell 3; have o4 := Pn.cell 4; have o5 := Pn.cell 5; have o6 := 0; have o7 := 0
                  simp only [List.getElem?_cons_zero, List.getElem?_cons_succ] at o0 o1 o2 o3 o4 o5
                  have Q := Lib.hid Qn
                  have P := Lib.hid Pn
                  clear Qn Pn hb
                  go_wp2_with fail
                  refine (MTY.out _).mono ?_
                  rintro e' wy ⟨rfl, hb⟩
                  clear c0 c1 c2 c3 c4 c5 c6 c7 d0 d1 d2 d3 d4 d5 d6 d7 p0 p1 p2 p3 p4 p5 p6 p7 q0 q1 q2 q3 q4 q5 q6 q7 o0 o1 o2 o3 o4 o5 o6 o7
                  have Qn := Q.out.next hb
                  have Pn := P.out.below hb
                  obtain ⟨c0, c1, c2, c3, c4, c5, c6, c7⟩ := Qn.cells B7 a (by simp)
                  obtain ⟨d0, d1, d2, d3, d4, d5, d6, d7⟩ := Qn.cells B8 b (by simp)
                  obtain ⟨p0, p1, p2, p3, p4, p5, p6, p7⟩ := Qn.cells C x (by simp)
                  obtain ⟨q0, q1, q2, q3, q4, q5, q6, q7⟩ := Qn.cells D y (by simp)
                  have o0 := Pn.cell 0; have o1 := Pn.cell 1; have o2 := Pn.cell 2; have o3 := Pn.cell 3; have o4 := Pn.cell 4; have o5 := Pn.cell 5; have o6 := 0; have o7 := 0
                  simp only [List.getElem?_cons_zero, List.getElem?_cons_succ] at o0 o1 o2 o3 o4 o5
                  have Q := Lib.hid Qn
                  have P := Lib.hid Pn
                  clear Qn Pn hb
                  go_wp2_with fail
                  go_roundw
                  case rel => exact ⟨k + 1, by omega, by go_num, Q⟩
                  case measure => simp [intOf]; omega
                · clear hm
                  go_wp2_with fail
                  refine (MTA.out _).mono ?_
                  rintro e' wa ⟨rfl, hb⟩
                  clear c0 c1 c2 c3 c4 c5 c6 c7 d0 d1 d2 d3 d4 d5 d6 d7 p0 p1 p2 p3 p4 p5 p6 p7 q0 q1 q2 q3 q4 q5 q6 q7 o0 o1 o2 o3 o4 o5 o6 o7
                  have Qn := Q.out.next hb
                  have Pn := P.out.below hb
                  obtain ⟨c0, c1, c2, c3, c4, c5, c6, c7⟩ := Qn.cells B7 a (by simp)
                  obtain ⟨d0, d1, d2, d3, d4, d5, d6, d7⟩ := Qn.cells B8 b (by simp)
                  obtain ⟨p0, p1, p2, p3, p4, p5, p6, p7⟩ := Qn.cells C x (by simp)
                  obtain ⟨q0, q1, q2, q3, q4, q5, q6, q7⟩ := Qn.cells D y (by simp)
                  have o0 := Pn.cell 0; have o1 := Pn.cell 1; have o2 := Pn.cell 2; have o3 := Pn.cell 3; have o4 := Pn.cell 4; have o5 := Pn.cell 5; have o6 := 0; have o7 := 0
                  simp only [List.getElem?_cons_zero, List.getElem?_cons_succ] at o0 o1 o2 o3 o4 o5
                  have Q := Lib.hid Qn
                  have P := Lib.hid Pn
                  clear Qn Pn hb
                  go_wp2_with fail
                  refine (MTB.out _).mono ?_
                  rintro e' wb ⟨rfl, hb⟩
                  clear c0 c1 c2 c3 c4 c5 c6 c7 d0 d1 d2 d3 d4 d5 d6 d7 p0 p1 p2 p3 p4 p5 p6 p7 q0 q1 q2 q3 q4 q5 q6 q7 o0 o1 o2 o3 o4 o5 o6 o7
                  have Qn := Q.out.next hb
                  have Pn := P.out.below hb
                  obtain ⟨c0, c1, c2, c3, c4, c5, c6, c7⟩ := Qn.cells B7 a (by simp)
                  obtain ⟨d0, d1, d2, d3, d4, d5, d6, d7⟩ := Qn.cells B8 b (by simp)
                  obtain ⟨p0, p1, p2, p3, p4, p5, p6, p7⟩ := Qn.cells C x (by simp)
                  obtain ⟨q0, q1, q2, q3, q4, q5, q6, q7⟩ := Qn.cells D y (by simp)
                  have o0 := Pn.cell 0; have o1 := Pn.cell 1; have o2 := Pn.cell 2; have o3 := Pn.cell 3; have o4 := Pn.cell 4; have o5 := Pn.cell 5; have o6 := 0; have o7 := 0
                  simp only [List.getElem?_cons_zero, List.getElem?_cons_succ] at o0 o1 o2 o3 o4 o5
                  have Q := Lib.hid Qn
                  have P := Lib.hid Pn
                  clear Qn Pn hb
                  go_wp2_with fail
                  refine (MTX.out _).mono ?_
                  rintro e' wx ⟨rfl, hb⟩
                  clear c0 c1 c2 c3 c4 c5 c6 c7 d0 d1 d2 d3 d4 d5 d6 d7 p0 p1 p2 p3 p4 p5 p6 p7 q0 q1 q2 q3 q4 q5 q6 q7 o0 o1 o2 o3 o4 o5 o6 o7
                  have Qn := Q.out.next hb
                  have Pn := P.out.below hb
                  obtain ⟨c0, c1, c2, c3, c4, c5, c6, c7⟩ := Qn.cells B7 a (by simp)
                  obtain ⟨d0, d1, d2, d3, d4, d5, d6, d7⟩ := Qn.cells B8 b (by simp)
                  obtain ⟨p0, p1, p2, p3, p4, p5, p6, p7⟩ := Qn.cells C x (by simp)
                  obtain ⟨q0, q1, q2, q3, q4, q5, q6, q7⟩ := Qn.cells D y (by simp)
                  have o0 := Pn.cell 0; have o1 := Pn.cell 1; have o2 := Pn.cell 2; have o3 := Pn.cell 3; have o4 := Pn.cell 4; have o5 := Pn.cell 5; have o6 := 0; have o7 := 0
                  simp only [List.getElem?_cons_zero, List.getElem?_cons_succ] at o0 o1 o2 o3 o4 o5
                  have Q := Lib.hid Qn
                  have P := Lib.hid Pn
                  clear Qn Pn hb
                  go_wp2_with fail
                  refine (MTY.out _).mono ?_
                  rintro e' wy ⟨rfl, hb⟩
                  clear c0 c1 c2 c3 c4 c5 c6 c7 d0 d1 d2 d3 d4 d5 d6 d7 p0 p1 p2 p3 p4 p5 p6 p7 q0 q1 q2 q3 q4 q5 q6 q7 o0 o1 o2 o3 o4 o5 o6 o7
                  have Qn := Q.out.next hb
                  have Pn := P.out.below hb
                  obtain ⟨c0, c1, c2, c3, c4, c5, c6, c7⟩ := Qn.cells B7 a (by simp)
                  obtain ⟨d0, d1, d2, d3, d4, d5, d6, d7⟩ := Qn.cells B8 b (by simp)
                  obtain ⟨p0, p1, p2, p3, p4, p5, p6, p7⟩ := Qn.cells C x (by simp)
                  obtain ⟨q0, q1, q2, q3, q4, q5, q6, q7⟩ := Qn.cells D y (by simp)
                  have o0 := Pn.cell 0; have o1 := Pn.cell 1; have o2 := Pn.cell 2; have o3 := Pn.cell 3; have o4 := Pn.cell 4; have o5 := Pn.cell 5; have o6 := 0; have o7 := 0
                  simp only [List.getElem?_cons_zero, List.getElem?_cons_succ] at o0 o1 o2 o3 o4 o5
                  have Q := Lib.hid Qn
                  have P := Lib.hid Pn
                  clear Qn Pn hb
                  go_wp2_with fail
                  go_roundw
                  case rel => exact ⟨k + 1, by omega, by go_num, Q⟩
                  case measure => simp [intOf]; omega
            · obtain rfl : k = n := by omega
              have q1 : decide ((k : Int) < (k : Int)) = false := by rw [decide_eq_false_iff_not]; omega
              have q1n : decide (k < k) = false := by rw [decide_eq_false_iff_not]; omega
              go_wp2_with fail
              refine (XC.works Q.out).mono ?_
              rintro e' w9 ⟨rfl, q⟩
              have HB := Lib.hid q.below
              clear q
              go_wp2_with fail
              go_ret
              exact ⟨rfl, HB.out⟩
    · have HM := Lib.hid hmt
      clear hmt HH hx hy
      rcases HS.out with ⟨rfl, rfl, rfl⟩ | ⟨pp, rfl, lc, cm, hp⟩
      · go_wp2_with fail
        clear c0 c1 c2 c3 c4 c5 c6 c7 d0 d1 d2 d3 d4 d5 d6 d7 p0 p1 p2 p3 p4 p5 p6 p7 q0 q1 q2 q3 q4 q5 q6 q7 u0 u1 u2 u3 u4 u5 u6 u7 v0 v1 v2 v3 v4 v5 v6 v7
        obtain ⟨D, hD⟩ : ∃ D, w3.heap.size = D := ⟨_, rfl⟩
        rw [hD] at Q
        try rw [hD]
        clear hD m1 m2 m3 m4 m5 m6
        go_loopw [110] (fun it wr => it = .int .i64 0 ∧ Hid (XC w [(D, y), (C, x), (B7, a), (B8, b)] wr)) (fun _ _ => 0)
        case atStart => exact ⟨rfl, Q⟩
        case round =>
          obtain ⟨rfl, Q⟩ := hrel
          go_wp2_with fail
          refine (XC.works Q.out).mono ?_
          rintro e' w9 ⟨rfl, q⟩
          have HB := Lib.hid q.below
          clear q
          go_wp2_with fail
          go_ret
          exact ⟨rfl, HB.out⟩
      · by_cases h0 : len = 0
        · subst h0
          have lc' : (0 : Int) ≤ (cap : Int) := by omega
          clear hp
          go_wp2_with fail
          clear c0 c1 c2 c3 c4 c5 c6 c7 d0 d1 d2 d3 d4 d5 d6 d7 p0 p1 p2 p3 p4 p5 p6 p7 q0 q1 q2 q3 q4 q5 q6 q7 u0 u1 u2 u3 u4 u5 u6 u7 v0 v1 v2 v3 v4 v5 v6 v7
          obtain ⟨D, hD⟩ : ∃ D, w3.heap.size = D := ⟨_, rfl⟩
          rw [hD] at Q
          try rw [hD]
          clear hD m1 m2 m3 m4 m5 m6
          go_loopw [110] (fun it wr => it = .int .i64 0 ∧ Hid (XC w [(D, y), (C, x), (B7, a), (B8, b)] wr)) (fun _ _ => 0)
          case atStart => exact ⟨rfl, Q⟩
          case round =>
            obtain ⟨rfl, Q⟩ := hrel
            go_wp2_with fail
            refine (XC.works Q.out).mono ?_
            rintro e' w9 ⟨rfl, q⟩
            have HB := Lib.hid q.below
            clear q
            go_wp2_with fail
            go_ret
            exact ⟨rfl, HB.out⟩
        · obtain ⟨bk, o, rfl, hbk, hcell⟩ := hp (by omega)
          have IN := Lib.hid hcell
          have HK := Lib.hid hbk
          clear hcell hp hbk
          obtain ⟨n, nl, n0, hmin⟩ : ∃ n : Nat, n ≤ len ∧ 0 < n ∧ (min (len : Int) 40 = (n : Int)) := ⟨min len 40, by omega, by omega, by omega⟩
          have h3 : (0 : Int) ≤ (n : Int) := by omega
          have h4 : (n : Int) ≤ (cap : Int) := by omega
          have h5 : (n : Int) ≤ (len : Int) := by omega
          go_wp2_with fail
          clear c0 c1 c2 c3 c4 c5 c6 c7 d0 d1 d2 d3 d4 d5 d6 d7 p0 p1 p2 p3 p4 p5 p6 p7 q0 q1 q2 q3 q4 q5 q6 q7 u0 u1 u2 u3 u4 u5 u6 u7 v0 v1 v2 v3 v4 v5 v6 v7
          obtain ⟨D, hD⟩ : ∃ D, w3.heap.size = D := ⟨_, rfl⟩
          rw [hD] at Q
          try rw [hD]
          clear hD m1 m2 m3 m4 m5 m6
          go_loopw [110] (fun it wr => ∃ k : Nat, k ≤ n ∧ it = .int .i64 k ∧ Hid (XC w [(D, y), (C, x), (B7, a), (B8, b)] wr)) (fun i _ => 1 + n - (intOf i).toNat)
          case atStart => exact ⟨0, Nat.zero_le _, rfl, Q⟩
          case round =>
            obtain ⟨k, hk, rfl, Q⟩ := hrel
            by_cases hlt : k < n
            · have q1 : decide ((k : Int) < (n : Int)) = true := by rw [decide_eq_true_iff]; omega
              have q1n : decide (k < n) = true := by rw [decide_eq_true_iff]; omega
              have i0 : (0 : Int) ≤ (k : Int) := by omega
              have i1 : (k : Int) < (n : Int) := by omega
              obtain ⟨n0, b0, g0⟩ := IN.out k (by omega) 0 (by decide)
              have e0 : wr.cell? ⟨bk, o + k * 6 + 0, none⟩ = some (.int .u8 n0) := by rw [Nat.add_assoc]; exact (Q.out.below.cell (p := ⟨bk, o + (k * 6 + 0), none⟩) (HK.out)).trans g0
              have wv0 : IntKind.i64.wrap (n0 : Int) = (n0 : Int) := by rw [IntKind.wrap_i64]; omega
              have rm0 := rem_nat n0 60
              have rl0 : n0 % 60 < 60 := Nat.mod_lt _ (by decide)
              obtain ⟨r0, hr0⟩ : ∃ r, n0 % 60 = r := ⟨_, rfl⟩
              rw [hr0] at rm0 rl0
              have rn0 : (n0 : Int) % 60 = (r0 : Int) := by omega
              obtain ⟨n1, b1, g1⟩ := IN.out k (by omega) 1 (by decide)
              have e1 : wr.cell? ⟨bk, o + k * 6 + 1, none⟩ = some (.int .u8 n1) := by rw [Nat.add_assoc]; exact (Q.out.below.cell (p := ⟨bk, o + (k * 6 + 1), none⟩) (HK.out)).trans g1
              have wv1 : IntKind.i64.wrap (n1 : Int) = (n1 : Int) := by rw [IntKind.wrap_i64]; omega
              have rm1 := rem_nat n1 60
              have rl1 : n1 % 60 < 60 := Nat.mod_lt _ (by decide)
              obtain ⟨r1, hr1⟩ : ∃ r, n1 % 60 = r := ⟨_, rfl⟩
              rw [hr1] at rm1 rl1
              have rn1 : (n1 : Int) % 60 = (r1 : Int) := by omega
              obtain ⟨n2, b2, g2⟩ := IN.out k (by omega) 2 (by decide)
              have e2 : wr.cell? ⟨bk, o + k * 6 + 2, none⟩ = some (.int .u8 n2) := by rw [Nat.add_assoc]; exact (Q.out.below.cell (p := ⟨bk, o + (k * 6 + 2), none⟩) (HK.out)).trans g2
              have wv2 : IntKind.i64.wrap (n2 : Int) = (n2 : Int) := by rw [IntKind.wrap_i64]; omega
              have rm2 := rem_nat n2 24
              have rl2 : n2 % 24 < 24 := Nat.mod_lt _ (by decide)
              obtain ⟨r2, hr2⟩ : ∃ r, n2 % 24 = r := ⟨_, rfl⟩
              rw [hr2] at rm2 rl2
              have rn2 : (n2 : Int) % 24 = (r2 : Int) := by omega
              obtain ⟨n3, b3, g3⟩ := IN.out k (by omega) 3 (by decide)
              have e3 : wr.cell? ⟨bk, o + k * 6 + 3, none⟩ = some (.int .u8 n3) := by rw [Nat.add_assoc]; exact (Q.out.below.cell (p := ⟨bk, o + (k * 6 + 3), none⟩) (HK.out)).trans g3
              have wv3 : IntKind.i64.wrap (n3 : Int) = (n3 : Int) := by rw [IntKind.wrap_i64]; omega
              have rm3 := rem_nat n3 31
              have rl3 : n3 % 31 < 31 := Nat.mod_lt _ (by decide)
              obtain ⟨r3, hr3⟩ : ∃ r, n3 % 31 = r := ⟨_, rfl⟩
              rw [hr3] at rm3 rl3
              have rn3 : (n3 : Int) % 31 = (r3 : Int) := by omega
              obtain ⟨n4, b4, g4⟩ := IN.out k (by omega) 4 (by decide)
              have e4 : wr.cell? ⟨bk, o + k * 6 + 4, none⟩ = some (.int .u8 n4) := by rw [Nat.add_assoc]; exact (Q.out.below.cell (p := ⟨bk, o + (k * 6 + 4), none⟩) (HK.out)).trans g4
              have wv4 : IntKind.i64.wrap (n4 : Int) = (n4 : Int) := by rw [IntKind.wrap_i64]; omega
              have rm4 := rem_nat n4 12
              have rl4 : n4 % 12 < 12 := Nat.mod_lt _ (by decide)
              obtain ⟨r4, hr4⟩ : ∃ r, n4 % 12 = r := ⟨_, rfl⟩
              rw [hr4] at rm4 rl4
              have rn4 : (n4 : Int) % 12 = (r4 : Int) := by omega
              obtain ⟨n5, b5, g5⟩ := IN.out k (by omega) 5 (by decide)
              have e5 : wr.cell? ⟨bk, o + k * 6 + 5, none⟩ = some (.int .u8 n5) := by rw [Nat.add_assoc]; exact (Q.out.below.cell (p := ⟨bk, o + (k * 6 + 5), none⟩) (HK.out)).trans g5
              have wv5 : IntKind.i64.wrap (n5 : Int) = (n5 : Int) := by rw [IntKind.wrap_i64]; omega
              have rm5 := rem_nat n5 7
              have rl5 : n5 % 7 < 7 := Nat.mod_lt _ (by decide)
              obtain ⟨r5, hr5⟩ : ∃ r, n5 % 7 = r := ⟨_, rfl⟩
              rw [hr5] at rm5 rl5
              have rn5 : (n5 : Int) % 7 = (r5 : Int) := by omega
              rw [Nat.add_zero] at e0
              have t3 := day_in r3 rl3
              have t5 := week_in r5 rl5
              have w3' : IntKind.i64.wrap (1 + (r3 : Int)) = ((1 + r3 : Nat) : Int) := by rw [IntKind.wrap_i64]; omega
              have w4' : IntKind.i64.wrap (1 + (r4 : Int)) = ((1 + r4 : Nat) : Int) := by rw [IntKind.wrap_i64]; omega
              obtain ⟨s3, hs3⟩ : ∃ s, 1 + r3 = s := ⟨_, rfl⟩
              have u3 : 1 + (r3 : Int) = (s3 : Int) := by omega
              obtain ⟨s4, hs4⟩ : ∃ s, 1 + r4 = s := ⟨_, rfl⟩
              have u4 : 1 + (r4 : Int) = (s4 : Int) := by omega
              rw [hs3] at t3 w3'
              rw [hs4] at w4'
              have hm := HM.out (p6 r0 r1 r2 s3 s4 r5) t3 t5
              obtain ⟨ma, hma⟩ : ∃ m, a.mat (p6 r0 r1 r2 s3 s4 r5) = m := ⟨_, rfl⟩
              obtain ⟨mb, hmb⟩ : ∃ m, b.mat (p6 r0 r1 r2 s3 s4 r5) = m := ⟨_, rfl⟩
              rw [hma, hmb] at hm
              have MTA := Lib.hid (fun W : World => mt OA.out.bd hma W)
              have MTB := Lib.hid (fun W : World => mt OB.out.bd hmb W)
              have Qa := (Q.out.alloc (.cells #[.int .u8 n0, .int .u8 n1, .int .u8 n2, .int .u8 n3, .int .u8 n4, .int .u8 n5] 64)).alloc (.cells #[.int .i64 r0, .int .i64 r1, .int .i64 r2, .int .i64 s3, .int .i64 s4, .int .i64 r5] 65)
              have Pa : Row ((wr.alloc (.cells #[.int .u8 n0, .int .u8 n1, .int .u8 n2, .int .u8 n3, .int .u8 n4, .int .u8 n5] 64)).alloc (.cells #[.int .i64 r0, .int .i64 r1, .int .i64 r2, .int .i64 s3, .int .i64 s4, .int .i64 r5] 65)) (wr.heap.size + 1) 65 [.int .i64 r0, .int .i64 r1, .int .i64 r2, .int .i64 s3, .int .i64 s4, .int .i64 r5] := by
                have := Row.new (wr.alloc (.cells #[.int .u8 n0, .int .u8 n1, .int .u8 n2, .int .u8 n3, .int .u8 n4, .int .u8 n5] 64)) [.int .i64 r0, .int .i64 r1, .int .i64 r2, .int .i64 s3, .int .i64 s4, .int .i64 r5] 65
                rw [World.size_alloc] at this
                exact this
              obtain ⟨c0, c1, c2, c3, c4, c5, c6, c7⟩ := Qa.cells B7 a (by simp)
              obtain ⟨d0, d1, d2, d3, d4, d5, d6, d7⟩ := Qa.cells B8 b (by simp)
              obtain ⟨p0, p1, p2, p3, p4, p5, p6, p7⟩ := Qa.cells C x (by simp)
              obtain ⟨q0, q1, q2, q3, q4, q5, q6, q7⟩ := Qa.cells D y (by simp)
              have o0 := Pa.cell 0; have o1 := Pa.cell 1; have o2 := Pa.cell 2; have o3 := Pa.cell 3; have o4 := Pa.cell 4; have o5 := Pa.cell 5; have o6 := 0; have o7 := 0
              simp only [List.getElem?_cons_zero, List.getElem?_cons_succ] at o0 o1 o2 o3 o4 o5
              have Q := Lib.hid Qa
              have P := Lib.hid Pa
              clear Qa Pa b0 g0 hr0 rl0 b1 g1 hr1 rl1 b2 g2 hr2 rl2 b3 g3 hr3 rl3 b4 g4 hr4 rl4 b5 g5 hr5 rl5 hs3 hs4 t3 t5 hma hmb
              cases ma
              · cases mb
                · clear hm
                  go_wp2_with fail
                  refine (MTA.out _).mono ?_
                  rintro e' wa ⟨rfl, hb⟩
                  clear c0 c1 c2 c3 c4 c5 c6 c7 d0 d1 d2 d3 d4 d5 d6 d7 p0 p1 p2 p3 p4 p5 p6 p7 q0 q1 q2 q3 q4 q5 q6 q7 o0 o1 o2 o3 o4 o5 o6 o7
                  have Qn := Q.out.next hb
                  have Pn := P.out.below hb
                  obtain ⟨c0, c1, c2, c3, c4, c5, c6, c7⟩ := Qn.cells B7 a (by simp)
                  obtain ⟨d0, d1, d2, d3, d4, d5, d6, d7⟩ := Qn.cells B8 b (by simp)
                  obtain ⟨p0, p1, p2, p3, p4, p5, p6, p7⟩ := Qn.cells C x (by simp)
                  obtain ⟨q0, q1, q2, q3, q4, q5, q6, q7⟩ := Qn.cells D y (by simp)
                  have o0 := Pn.cell 0; have o1 := Pn.cell 1; have o2 := Pn.cell 2; have o3 := Pn.cell 3; have o4 := Pn.cell 4; have o5 := Pn.cell 5; have o6 := 0; have o7 := 0
                  simp only [List.getElem?_cons_zero, List.getElem?_cons_succ] at o0 o1 o2 o3 o4 o5
                  have Q := Lib.hid Qn
                  have P := Lib.hid Pn
                  clear Qn Pn hb
                  go_wp2_with fail
                  go_roundw
                  case rel => exact ⟨k + 1, by omega, by go_num, Q⟩
                  case measure => simp [intOf]; omega
                · clear hm
                  go_wp2_with fail
                  refine (MTA.out _).mono ?_
                  rintro e' wa ⟨rfl, hb⟩
                  clear c0 c1 c2 c3 c4 c5 c6 c7 d0 d1 d2 d3 d4 d5 d6 d7 p0 p1 p2 p3 p4 p5 p6 p7 q0 q1 q2 q3 q4 q5 q6 q7 o0 o1 o2 o3 o4 o5 o6 o7
                  have Qn := Q.out.next hb
                  have Pn := P.out.below hb
                  obtain ⟨c0, c1, c2, c3, c4, c5, c6, c7⟩ := Qn.cells B7 a (by simp)
                  obtain ⟨d0, d1, d2, d3, d4, d5, d6, d7⟩ := Qn.cells B8 b (by simp)
                  obtain ⟨p0, p1, p2, p3, p4, p5, p6, p7⟩ := Qn.cells C x (by simp)
                  obtain ⟨q0, q1, q2, q3, q4, q5, q6, q7⟩ := Qn.cells D y (by simp)
                  have o0 := Pn.cell 0; have o1 := Pn.cell 1; have o2 := Pn.cell 2; have o3 := Pn.cell 3; have o4 := Pn.cell 4; have o5 := Pn.cell 5; have o6 := 0; have o7 := 0
                  simp only [List.getElem?_cons_zero, List.getElem?_cons_succ] at o0 o1 o2 o3 o4 o5
                  have Q := Lib.hid Qn
                  have P := Lib.hid Pn
                  clear Qn Pn hb
                  go_wp2_with fail
                  go_roundw
                  case rel => exact ⟨k + 1, by omega, by go_num, Q⟩
                  case measure => simp [intOf]; omega
              · cases mb
                · clear hm
                  go_wp2_with fail
                  refine (MTA.out _).mono ?_
                  rintro e' wa ⟨rfl, hb⟩
                  clear c0 c1 c2 c3 c4 c5 c6 c7 d0 d1 d2 d3 d4 d5 d6 d7 p0 p1 p2 p3 p4 p5 p6 p7 q0 q1 q2 q3 q4 q5 q6 q7 o0 o1 o2 o3 o4 o5 o6 o7
                  have Qn := Q.out.next hb
                  have Pn := P.out.below hb
                  obtain ⟨c0, c1, c2, c3, c4, c5, c6, c7⟩ := Qn.cells B7 a (by simp)
                  obtain ⟨d0, d1, d2, d3, d4, d5, d6, d7⟩ := Qn.cells B8 b (by simp)
                  obtain ⟨p0, p1, p2, p3, p4, p5, p6, p7⟩ := Qn.cells C x (by simp)
                  obtain ⟨q0, q1, q2, q3, q4, q5, q6, q7⟩ := Qn.cells D y (by simp)
                  have o0 := Pn.cell 0; have o1 := Pn.cell 1; have o2 := Pn.cell 2; have o3 := Pn.cell 3; have o4 := Pn.cell 4; have o5 := Pn.cell 5; have o6 := 0; have o7 := 0
                  simp only [List.getElem?_cons_zero, List.getElem?_cons_succ] at o0 o1 o2 o3 o4 o5
                  have Q := Lib.hid Qn
                  have P := Lib.hid Pn
                  clear Qn Pn hb
                  go_wp2_with fail
                  refine (MTB.out _).mono ?_
                  rintro e' wb ⟨rfl, hb⟩
                  clear c0 c1 c2 c3 c4 c5 c6 c7 d0 d1 d2 d3 d4 d5 d6 d7 p0 p1 p2 p3 p4 p5 p6 p7 q0 q1 q2 q3 q4 q5 q6 q7 o0 o1 o2 o3 o4 o5 o6 o7
                  have Qn := Q.out.next hb
                  have Pn := P.out.below hb
                  obtain ⟨c0, c1, c2, c3, c4, c5, c6, c7⟩ := Qn.cells B7 a (by simp)
                  obtain ⟨d0, d1, d2, d3, d4, d5, d6, d7⟩ := Qn.cells B8 b (by simp)
                  obtain ⟨p0, p1, p2, p3, p4, p5, p6, p7⟩ := Qn.cells C x (by simp)
                  obtain ⟨q0, q1, q2, q3, q4, q5, q6, q7⟩ := Qn.cells D y (by simp)
                  have o0 := Pn.cell 0; have o1 := Pn.cell 1; have o2 := Pn.cell 2; have o3 := Pn.cell 3; have o4 := Pn.cell 4; have o5 := Pn.cell 5; have o6 := 0; have o7 := 0
                  simp only [List.getElem?_cons_zero, List.getElem?_cons_succ] at o0 o1 o2 o3 o4 o5
                  have Q := Lib.hid Qn
                  have P := Lib.hid Pn
                  clear Qn Pn hb
                  go_wp2_with fail
                  go_roundw
                  case rel => exact ⟨k + 1, by omega, by go_num, Q⟩
                  case measure => simp [intOf]; omega
                · cases hm
            · obtain rfl : k = n := by omega
              have q1 : decide ((k : Int) < (k : Int)) = false := by rw [decide_eq_false_iff_not]; omega
              have q1n : decide (k < k) = false := by rw [decide_eq_false_iff_not]; omega
              go_wp2_with fail
              refine (XC.works Q.out).mono ?_
              rintro e' w9 ⟨rfl, q⟩
              have HB := Lib.hid q.below
              clear q
              go_wp2_with fail
              go_ret
              exact ⟨rfl, HB.out⟩

set_option maxRecDepth 100000 in
theorem lifted (os : Os) (started : os.Started) (H : Type) (enc : TypeId × Value → H) :
    ReturnsInHanded {} Tryz.checked os 8 .any (fun w args => (Rows.exprMeetSpec.pre enc Tryz.prog Tryz.f8 [] false w args ∧ laidMetH Tryz.prog Rows.exprMeetRow.laid w) ∧ sizedMet enc Tryz.prog Tryz.f8 (OpenSpec.ofChange Rows.exprMeetSpec) false w args)
      (Rows.exprMeetSpec.post enc Tryz.prog Tryz.f8 false true false false) := by
  refine returnsInHanded_of_change_and (C := Tryz.checked) (X := fun w _ => laidMetH Tryz.prog Rows.exprMeetRow.laid w) (fun _ _ _ hh h => h.of_heap hh) own started (by kernel_rfl) Tryz.func8
    (ChangeSpec.witness_shaped (enc := enc) (C := Tryz.checked) (os := os) (X := fun w _ => laidMetH Tryz.prog Rows.exprMeetRow.laid w) false (World.laidAll Tryz.prog os Rows.exprMeetRow.laid) #[.agg #[.int .u64 0, .int .u64 0, .int .u64 0, .int .u64 0, .int .u64 0, .int .u64 0, .int .u8 0], .agg #[.int .u64 0, .int .u64 0, .int .u64 0, .int .u64 0, .int .u64 0, .int .u64 0, .int .u8 0], .slice none 0 0] 8 (World.laidAll_os _ _ _) (World.shaped_of_ZipB (by kernel_rfl) (by kernel_rfl)) (by kernel_rfl) (by kernel_rfl) (by kernel_rfl) (by rw [MakeChecks.laidMetH_plain _ _ _ (by kernel_rfl)]; exact laidMet_laidAll _ (by kernel_rfl) (by kernel_rfl))) ?_
  intro W base args ds gs before hval0 hW _ _ hL _
  have hval : ∀ (j : Nat) t v, Tryz.f8.params[j]? = some t → args[j]? = some v → Value.okWide Tryz.prog W .any base t v := hval0
  have hW' := hW
  obtain ⟨p, q, hA0, hV, rfl, hfz, hnd⟩ := hW
  have hA : DataW.TrodAll enc Tryz.prog W 0 (fun _ => true) true Tryz.f8.params.toList args.toList ds p := hA0
  rw [Tryz.params8] at hA hval
  obtain ⟨v0, vs0, d0, ds0, p0, q0, hargs, rfl, rfl, h0, r0⟩ := trodAll_cons hA
  obtain ⟨v1, vs1, d1, ds1, p1, q1, rfl, rfl, rfl, h1, r1⟩ := trodAll_cons r0
  obtain ⟨v2, vs2, d2, ds2, p2, q2, rfl, rfl, rfl, h2, r2⟩ := trodAll_cons r1
  obtain ⟨rfl, rfl, rfl⟩ := trodAll_nil r2
  obtain rfl : args = #[v0, v1, v2] := by cases args; simp_all
  obtain ⟨rfl, rfl⟩ := trodVars_none hV
  obtain ⟨z0, c0, rfl, w0, u0⟩ := open_sets (hval 0 42 v0 rfl rfl) h0
  have k0 := h0
  have lt0 : ∀ x ∈ p0, x.block < W.heap.size := by obtain ⟨m, hm⟩ := k0; exact DataW.trod_lt m _ _ _ hm
  obtain ⟨z1, c1, rfl, w1, u1⟩ := open_sets (hval 1 42 v1 rfl rfl) h1
  have k1 := h1
  have lt1 : ∀ x ∈ p1, x.block < W.heap.size := by obtain ⟨m, hm⟩ := k1; exact DataW.trod_lt m _ _ _ hm
  obtain ⟨a2, len2, cap2, rfl⟩ := okWide_slice Tryz.underlying61 (hval 2 61 v2 rfl rfl)
  have k2 := h2
  have lt2 : ∀ x ∈ p2, x.block < W.heap.size := by obtain ⟨m, hm⟩ := k2; exact DataW.trod_lt m _ _ _ hm
  have w2 : R6 W a2 len2 cap2 := by obtain ⟨fuel, hf⟩ := h2; exact open_rows6 (by simpa [Value.cells] using hf)
  clear hA0 hval0
  refine (walk z0 c0 z1 c1 a2 len2 cap2 W (lay_of _ W (by kernel_rfl) (.tail _ (.head _)) (by kernel_rfl) hL) w0 u0 w1 u1 w2).mono fun e W' ⟨he, bel⟩ => ?_
  subst he
  exact ⟨_, rfl, _, _, _, [], _, [], hW', trodAll_mk1 (shut_bool Tryz.underlying4 _), (trodAll_cons_mk (Below.trod laidOut (by kernel_rfl) (of_decide_eq_true (by kernel_rfl)) k0 bel lt0) (trodAll_cons_mk (Below.trod laidOut (by kernel_rfl) (of_decide_eq_true (by kernel_rfl)) k1 bel lt1) (trodAll_cons_mk (Below.trod laidOut (by kernel_rfl) (of_decide_eq_true (by kernel_rfl)) k2 bel lt2) trodAll_mk0))), rfl, bel.frame _, fun h => by cases h⟩

theorem row_holds : Rows.ExprMeetSaid :=
  OpenClaim.holds_of_wide 8 Tryz.f8 rfl rfl rfl rfl rfl rfl rfl ⟨rfl, rfl, rfl, rfl, rfl⟩ rfl rfl rfl rfl rfl (by kernel_rfl) Tryz.func8 (by kernel_rfl)
    (of_decide_eq_true (by kernel_rfl)) (by unfold Func.isWrapper; first | (rw [if_pos (by decide +kernel)]; kernel_rfl) | (rw [if_neg (by decide +kernel)]; exact ⟨rfl, rfl⟩))
    (fun os started H enc _ => lifted os started H enc)

theorem proved : Rows.ExprMeetCardSaid :=
  Claim7.holds_tied_plain_at .later [] Rows.exprMeetCard.laidKinds true Rows.exprMeetCard.stood.harness Rows.exprMeetCard.stood.looks
    row_holds (fun _ h => by cases h) (by kernel_rfl) (fun _ h => by cases h) exprMeet_row_tie rfl ⟨rfl, rfl⟩ (by kernel_rfl) rfl
    (fun f fn hf hfn => by
      obtain rfl : f = 8 := Option.some.inj ((show Tryz.prog.funcNamed Rows.exprMeetRow.func = some 8 by kernel_rfl).symm.trans hf) |>.symm
      obtain rfl : fn = Tryz.f8 := (Option.some.inj (Tryz.func8.symm.trans hfn)).symm
      exact ⟨looks0, fun j t ht => by
        rw [Tryz.params8] at ht
        have hm : t ∈ [42, 61] := by simpa using Array.mem_of_getElem? ht
        have hall : ([42, 61].all fun u => !Tryz.prog.wantsStandIn u) = true := by kernel_rfl
        exact (show Tryz.prog.wantsStandIn t = false by simpa using List.all_eq_true.1 hall t hm)⟩)
    (by kernel_rfl)
end Go.Proofs.YtpnfifhanmpapaaGreatDoor.exprMeet
