/- The document's Copy, and the program's. -/
import Derived.Test.YtljackjcgfaanaaGreatDoorPlaS
import Derived.Test.YtljackjcgfaanaaGreatDoorBlkF
namespace Go.Proofs.YtljackjcgfaanaaGreatDoor
open Go.ChangeShapes Go.RowKit

/-- a plan and a plan of zeros in two blocks -/
def cpW (w : World) (q : Pl.P) (v : Value) : World := (w.alloc (.cells #[.int .i64 q.k, .int .u64 q.x.a0, .int .u64 q.x.a1, .int .u64 q.x.a2, .int .u64 q.x.a3, .int .u64 q.x.a4, .int .u64 q.x.a5, .bool q.x.b3, .bool q.x.b5, .int .i64 q.z, .int .i64 q.s, .int .i64 q.p, .int .i64 q.c, v] 29)).alloc (.cells #[.int .i64 0, .int .u64 0, .int .u64 0, .int .u64 0, .int .u64 0, .int .u64 0, .int .u64 0, .bool false, .bool false, .int .i64 0, .int .i64 0, .int .i64 0, .int .i64 0, .slice none 0 0] 29)
theorem cpW_rows (w : World) (q : Pl.P) (v : Value) : (cpW w q v).heap.size = w.heap.size + 1 + 1 ∧ Row (cpW w q v) w.heap.size 29 (plL q v) ∧ Row (cpW w q v) (w.heap.size + 1) 29 (plL pZero (.slice none 0 0)) ∧ Below w.heap.size w (cpW w q v) := by
  obtain ⟨B0, R1, R2⟩ := new2 w (plL q v) (plL pZero (.slice none 0 0)) 29 29
  exact ⟨by simp [cpW], R1, R2, B0⟩
theorem own_setB {wr : World} {base b k n : Nat} {u v : Value} {xs : List Value} (h : wr.ownsRow base 48 2 u n xs) (hb : b < base) : (wr.setCell ⟨b, k, none⟩ v).ownsRow base 48 2 u n xs := by
  refine ⟨h.1, ?_⟩
  rcases h.2 with hn | ⟨g, cap, cur, hv, hbg, hg, rest⟩
  · exact .inl hn
  · exact .inr ⟨g, cap, cur, hv, hbg, (Below.heap_setCell _ _ _ g (by simp; omega)).trans hg, rest⟩
theorem OwnS.setB {w W0 wr : World} {b k : Nat} {u v : Value} {l : List (Int × Int)} (h : wr.ownsRow W0.heap.size 48 2 u l.length (l.flatMap Bo.encS) ∧ Below w.heap.size w wr) (hb : b < W0.heap.size) (hw : w.heap.size ≤ b) :
    (wr.setCell ⟨b, k, none⟩ v).ownsRow W0.heap.size 48 2 u l.length (l.flatMap Bo.encS) ∧ Below w.heap.size w (wr.setCell ⟨b, k, none⟩ v) := ⟨own_setB h.1 hb, h.2.setCell hw _⟩
set_option maxRecDepth 100000 in
set_option maxHeartbeats 8000000 in
theorem rpcopy_any (q : Pl.P) (v : Value) (w : World) (h : Bo.RowS w v q.l) :
    Calls Tryz.prog 14 #[.agg #[.int .i64 q.k, .int .u64 q.x.a0, .int .u64 q.x.a1, .int .u64 q.x.a2, .int .u64 q.x.a3, .int .u64 q.x.a4, .int .u64 q.x.a5, .bool q.x.b3, .bool q.x.b5, .int .i64 q.z, .int .i64 q.s, .int .i64 q.p, .int .i64 q.c, v]] w fun e w' => ∃ u, e = .returned (.agg #[.int .i64 q.k, .int .u64 q.x.a0, .int .u64 q.x.a1, .int .u64 q.x.a2, .int .u64 q.x.a3, .int .u64 q.x.a4, .int .u64 q.x.a5, .bool q.x.b3, .bool q.x.b5, .int .i64 q.z, .int .i64 q.s, .int .i64 q.p, .int .i64 q.c, u]) ∧ Bo.OwnS w u q.l w' := by
  obtain ⟨S0, R1, R2, B0⟩ := cpW_rows w q v
  obtain ⟨W0, hW0⟩ : ∃ W0, cpW w q v = W0 := ⟨_, rfl⟩
  rw [hW0] at S0 R1 R2 B0
  have RR1 := Lib.hid R1
  have RR2 := Lib.hid R2
  have SZ := Lib.hid S0
  have HS := Lib.hid (h.below (B0.mono (Nat.le_refl _)))
  have HB0 := Lib.hid B0
  have LL := h.1
  obtain ⟨A, cap, rfl⟩ := h.len
  unfold cpW at hW0
  have HW0 := Lib.hid hW0
  obtain ⟨i0, hi, hz0, hz1, hz2⟩ := info_parts Bo.infoS
  clear h R1 R2 B0 hW0 S0
  go_enter Tryz.func14, Tryz.ntmps14
  go_wp2_with fail
  simp only [HW0.out]
  go_loopw [3, 4] (fun sv iv wr => ∃ (k : Nat) (u : Value), k ≤ q.l.length ∧ iv = .int .i64 k ∧ u = sv ∧ Hid (Bo.OwnS W0 u (q.l.take k) wr)) (fun _ iv _ => q.l.length - (intOf iv).toNat)
  case atStart => exact ⟨0, _, by omega, rfl, rfl, Lib.hid (.nil (Below.refl _ _))⟩
  case round =>
    obtain ⟨k, u, hk, rfl, rfl, ho⟩ := hrel
    have Q1 := Lib.hid (RR1.out.below ho.out.below)
    have HS1 := Lib.hid (HS.out.below ho.out.below)
    have c13 : wr.cell? ⟨w.heap.size, 13, none⟩ = some (.slice A q.l.length cap) := Q1.out.cell 13
    by_cases lt : k < q.l.length
    · have e0 : decide ((k : Int) < (q.l.length : Int)) = true := by rw [decide_eq_true_iff]; omega
      have wi : IntKind.i64.wrap ((k : Int) + 1) = (k : Int) + 1 := by rw [IntKind.wrap_i64]; omega
      obtain ⟨b0, o, rfl, c1, c2⟩ := HS1.out.at lt
      have TK : Hid (q.l.take (k + 1) = q.l.take k ++ [q.l.getD k (0, 0)]) := Lib.hid (take_snoc2 lt)
      have TL : (q.l.take k).length = k := by rw [List.length_take]; omega
      obtain ⟨x, hx⟩ : ∃ x, q.l.getD k (0, 0) = x := ⟨_, rfl⟩
      rw [hx] at c1 c2 TK
      obtain ⟨x1, x2⟩ := x
      have SZ1 := ho.out.below.size
      clear hx
      go_wp2_with (at_builtin; refine wpList_append_own _ rfl _ _ 27 rfl W0.heap.size 48 i0 (.agg #[.int .i64 0, .int .i64 0]) 2 16 Tryz.underlying27 hi hz0 hz1 hz2 rfl (by decide) _ (q.l.take k).length _ rfl (ho.out.row.alloc _) ⟨wr.heap.size, 0, none⟩ 1 1 [.int .i64 x1, .int .i64 x2] rfl rfl (Bo.cells_new _ _ rfl [.int .i64 x1, .int .i64 x2] _) (by simp [Value.oneCell']) (by simp [maxLen]; omega) (by omega) (by simp; omega) ?_; intro v2 w2 hown hg2 _)
      have HN : Hid (Bo.OwnS W0 v2 (q.l.take (k + 1)) w2) := Lib.hid (by rw [TK.out]; exact ho.out.step (x := (x1, x2)) hown hg2)
      clear hown hg2
      go_wp2_with fail
      go_roundw
      case rel => exact ⟨k + 1, _, by omega, by first | rfl | go_num, rfl, HN⟩
      case measure => simp [intOf]; omega
    · have e0 : decide ((k : Int) < (q.l.length : Int)) = false := by rw [decide_eq_false_iff_not]; omega
      have e0n : decide (k < q.l.length) = false := by rw [decide_eq_false_iff_not]; omega
      have e0m : ¬ k < q.l.length := lt
      have HN : Hid (Bo.OwnS W0 u q.l wr) := Lib.hid (by have := ho.out; rwa [List.take_of_length_le (by omega)] at this)
      obtain ⟨ua, uc, rfl⟩ := HN.out.len
      have f13 : wr.frozen? ⟨w.heap.size, 13, none⟩ = false := Q1.out.free 13
      have RZ : Row wr (w.heap.size + 1) 29 (plL pZero (.slice none 0 0)) := RR2.out.below ho.out.below
      have x0 := Q1.out.cell 0
      have x1 := Q1.out.cell 1
      have x2 := Q1.out.cell 2
      have x3 := Q1.out.cell 3
      have x4 := Q1.out.cell 4
      have x5 := Q1.out.cell 5
      have x6 := Q1.out.cell 6
      have x7 := Q1.out.cell 7
      have x8 := Q1.out.cell 8
      have x9 := Q1.out.cell 9
      have x10 := Q1.out.cell 10
      have x11 := Q1.out.cell 11
      have x12 := Q1.out.cell 12
      have z0 := RZ.cell 0
      have g0 := RZ.free 0
      have z1 := RZ.cell 1
      have g1 := RZ.free 1
      have z2 := RZ.cell 2
      have g2 := RZ.free 2
      have z3 := RZ.cell 3
      have g3 := RZ.free 3
      have z4 := RZ.cell 4
      have g4 := RZ.free 4
      have z5 := RZ.cell 5
      have g5 := RZ.free 5
      have z6 := RZ.cell 6
      have g6 := RZ.free 6
      have z7 := RZ.cell 7
      have g7 := RZ.free 7
      have z8 := RZ.cell 8
      have g8 := RZ.free 8
      have z9 := RZ.cell 9
      have g9 := RZ.free 9
      have z10 := RZ.cell 10
      have g10 := RZ.free 10
      have z11 := RZ.cell 11
      have g11 := RZ.free 11
      have z12 := RZ.cell 12
      have g12 := RZ.free 12
      have z13 := RZ.cell 13
      have g13 := RZ.free 13
      simp only [plL, List.getElem?_cons_zero, List.getElem?_cons_succ] at x0 x1 x2 x3 x4 x5 x6 x7 x8 x9 x10 x11 x12 z0 z1 z2 z3 z4 z5 z6 z7 z8 z9 z10 z11 z12 z13
      have RZ' := Lib.hid RZ
      clear lt ho hk RZ
      go_wp2_with fail
      have RF : Row (((((((((((((((wr.setCell ⟨w.heap.size, 13, none⟩ (.slice ua q.l.length uc)).setCell ⟨w.heap.size + 1, 0, none⟩ (.int .i64 q.k)).setCell ⟨w.heap.size + 1, 1, none⟩ (.int .u64 q.x.a0)).setCell ⟨w.heap.size + 1, 2, none⟩ (.int .u64 q.x.a1)).setCell ⟨w.heap.size + 1, 3, none⟩ (.int .u64 q.x.a2)).setCell ⟨w.heap.size + 1, 4, none⟩ (.int .u64 q.x.a3)).setCell ⟨w.heap.size + 1, 5, none⟩ (.int .u64 q.x.a4)).setCell ⟨w.heap.size + 1, 6, none⟩ (.int .u64 q.x.a5)).setCell ⟨w.heap.size + 1, 7, none⟩ (.bool q.x.b3)).setCell ⟨w.heap.size + 1, 8, none⟩ (.bool q.x.b5)).setCell ⟨w.heap.size + 1, 9, none⟩ (.int .i64 q.z)).setCell ⟨w.heap.size + 1, 10, none⟩ (.int .i64 q.s)).setCell ⟨w.heap.size + 1, 11, none⟩ (.int .i64 q.p)).setCell ⟨w.heap.size + 1, 12, none⟩ (.int .i64 q.c)).setCell ⟨w.heap.size + 1, 13, none⟩ (.slice ua q.l.length uc)) (w.heap.size + 1) 29 (plL q (.slice ua q.l.length uc)) := (((((((((((((((RZ'.out.other ⟨w.heap.size, 13, none⟩ (.slice ua q.l.length uc) (by simp)).set 0 _).set 1 _).set 2 _).set 3 _).set 4 _).set 5 _).set 6 _).set 7 _).set 8 _).set 9 _).set 10 _).set 11 _).set 12 _).set 13 _)
      have OF : Bo.OwnS w (.slice ua q.l.length uc) q.l (((((((((((((((wr.setCell ⟨w.heap.size, 13, none⟩ (.slice ua q.l.length uc)).setCell ⟨w.heap.size + 1, 0, none⟩ (.int .i64 q.k)).setCell ⟨w.heap.size + 1, 1, none⟩ (.int .u64 q.x.a0)).setCell ⟨w.heap.size + 1, 2, none⟩ (.int .u64 q.x.a1)).setCell ⟨w.heap.size + 1, 3, none⟩ (.int .u64 q.x.a2)).setCell ⟨w.heap.size + 1, 4, none⟩ (.int .u64 q.x.a3)).setCell ⟨w.heap.size + 1, 5, none⟩ (.int .u64 q.x.a4)).setCell ⟨w.heap.size + 1, 6, none⟩ (.int .u64 q.x.a5)).setCell ⟨w.heap.size + 1, 7, none⟩ (.bool q.x.b3)).setCell ⟨w.heap.size + 1, 8, none⟩ (.bool q.x.b5)).setCell ⟨w.heap.size + 1, 9, none⟩ (.int .i64 q.z)).setCell ⟨w.heap.size + 1, 10, none⟩ (.int .i64 q.s)).setCell ⟨w.heap.size + 1, 11, none⟩ (.int .i64 q.p)).setCell ⟨w.heap.size + 1, 12, none⟩ (.int .i64 q.c)).setCell ⟨w.heap.size + 1, 13, none⟩ (.slice ua q.l.length uc)) := by
        have o0 := (show wr.ownsRow W0.heap.size 48 2 (.slice ua q.l.length uc) q.l.length (q.l.flatMap Bo.encS) ∧ Below w.heap.size w wr from ⟨HN.out.row, HB0.out.trans (HN.out.below.mono (by have := SZ.out; omega))⟩)
        have lz := SZ.out
        have o1 := OwnS.setB (b := w.heap.size) (k := 13) (v := .slice ua q.l.length uc) o0 (by omega) (Nat.le_refl _)
        have o2 := OwnS.setB (b := w.heap.size + 1) (k := 0) (v := .int .i64 q.k) o1 (by omega) (by omega)
        have o3 := OwnS.setB (b := w.heap.size + 1) (k := 1) (v := .int .u64 q.x.a0) o2 (by omega) (by omega)
        have o4 := OwnS.setB (b := w.heap.size + 1) (k := 2) (v := .int .u64 q.x.a1) o3 (by omega) (by omega)
        have o5 := OwnS.setB (b := w.heap.size + 1) (k := 3) (v := .int .u64 q.x.a2) o4 (by omega) (by omega)
        have o6 := OwnS.setB (b := w.heap.size + 1) (k := 4) (v := .int .u64 q.x.a3) o5 (by omega) (by omega)
        have o7 := OwnS.setB (b := w.heap.size + 1) (k := 5) (v := .int .u64 q.x.a4) o6 (by omega) (by omega)
        have o8 := OwnS.setB (b := w.heap.size + 1) (k := 6) (v := .int .u64 q.x.a5) o7 (by omega) (by omega)
        have o9 := OwnS.setB (b := w.heap.size + 1) (k := 7) (v := .bool q.x.b3) o8 (by omega) (by omega)
        have o10 := OwnS.setB (b := w.heap.size + 1) (k := 8) (v := .bool q.x.b5) o9 (by omega) (by omega)
        have o11 := OwnS.setB (b := w.heap.size + 1) (k := 9) (v := .int .i64 q.z) o10 (by omega) (by omega)
        have o12 := OwnS.setB (b := w.heap.size + 1) (k := 10) (v := .int .i64 q.s) o11 (by omega) (by omega)
        have o13 := OwnS.setB (b := w.heap.size + 1) (k := 11) (v := .int .i64 q.p) o12 (by omega) (by omega)
        have o14 := OwnS.setB (b := w.heap.size + 1) (k := 12) (v := .int .i64 q.c) o13 (by omega) (by omega)
        have o15 := OwnS.setB (b := w.heap.size + 1) (k := 13) (v := .slice ua q.l.length uc) o14 (by omega) (by omega)
        exact ⟨Bo.ownsRow_base o15.1 (by omega), o15.2⟩
      generalize (((((((((((((((wr.setCell ⟨w.heap.size, 13, none⟩ (.slice ua q.l.length uc)).setCell ⟨w.heap.size + 1, 0, none⟩ (.int .i64 q.k)).setCell ⟨w.heap.size + 1, 1, none⟩ (.int .u64 q.x.a0)).setCell ⟨w.heap.size + 1, 2, none⟩ (.int .u64 q.x.a1)).setCell ⟨w.heap.size + 1, 3, none⟩ (.int .u64 q.x.a2)).setCell ⟨w.heap.size + 1, 4, none⟩ (.int .u64 q.x.a3)).setCell ⟨w.heap.size + 1, 5, none⟩ (.int .u64 q.x.a4)).setCell ⟨w.heap.size + 1, 6, none⟩ (.int .u64 q.x.a5)).setCell ⟨w.heap.size + 1, 7, none⟩ (.bool q.x.b3)).setCell ⟨w.heap.size + 1, 8, none⟩ (.bool q.x.b5)).setCell ⟨w.heap.size + 1, 9, none⟩ (.int .i64 q.z)).setCell ⟨w.heap.size + 1, 10, none⟩ (.int .i64 q.s)).setCell ⟨w.heap.size + 1, 11, none⟩ (.int .i64 q.p)).setCell ⟨w.heap.size + 1, 12, none⟩ (.int .i64 q.c)).setCell ⟨w.heap.size + 1, 13, none⟩ (.slice ua q.l.length uc)) = Z at RF OF ⊢
      have y0 := RF.cell 0
      have y1 := RF.cell 1
      have y2 := RF.cell 2
      have y3 := RF.cell 3
      have y4 := RF.cell 4
      have y5 := RF.cell 5
      have y6 := RF.cell 6
      have y7 := RF.cell 7
      have y8 := RF.cell 8
      have y9 := RF.cell 9
      have y10 := RF.cell 10
      have y11 := RF.cell 11
      have y12 := RF.cell 12
      have y13 := RF.cell 13
      simp only [plL, List.getElem?_cons_zero, List.getElem?_cons_succ] at y0 y1 y2 y3 y4 y5 y6 y7 y8 y9 y10 y11 y12 y13
      refine bodyPost_ret (v := .agg #[.int .i64 q.k, .int .u64 q.x.a0, .int .u64 q.x.a1, .int .u64 q.x.a2, .int .u64 q.x.a3, .int .u64 q.x.a4, .int .u64 q.x.a5, .bool q.x.b3, .bool q.x.b5, .int .i64 q.z, .int .i64 q.s, .int .i64 q.p, .int .i64 q.c, (.slice ua q.l.length uc)]) ?_ ?_ ?_
      · simp [results, Tryz.results14, go_sem, y0, y1, y2, y3, y4, y5, y6, y7, y8, y9, y10, y11, y12, y13]
      · rfl
      · exact ⟨_, rfl, OF⟩
end Go.Proofs.YtljackjcgfaanaaGreatDoor
