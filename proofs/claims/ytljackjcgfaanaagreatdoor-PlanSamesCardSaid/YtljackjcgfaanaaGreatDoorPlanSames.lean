/- For every two plans, PlanSames returns true: Equal and Copy are as the document says; a copy shares no memory. Condition: the program's tables start as its text lays them (tied). -/
import Derived.Test.YtljackjcgfaanaaGreatDoorPlaArg
import Derived.Test.YtljackjcgfaanaaGreatDoorPlaU
namespace Go.Proofs.YtljackjcgfaanaaGreatDoor.planSames
open Go.ChangeShapes Go.WideShapes Go.ChangeAt Go.RowKit Go.ChangeMaps

noncomputable def eqP (a b : Pl.P) : Bool := @decide (a = b) (Classical.propDecidable _)
theorem eqP_iff (a b : Pl.P) : eqP a b = true ↔ a = b := by unfold eqP; simp
theorem eqP_self (a : Pl.P) : eqP a a = true := (eqP_iff a a).2 rfl
theorem row_grown {W W' : World} {c : Nat} {t : TypeId} {cs : List Value} {row : Option Nat} (h : Row W c t cs) (hg : W.grownBy W' row) (hn : some c ≠ row) : Row W' c t cs := (hg.block c h.lt hn).trans h
theorem grown_set {W wr : World} {g k : Nat} {v : Value} (h : W.grownBy wr (some g)) : W.grownBy (wr.setCell ⟨g, k, none⟩ v) (some g) := by
  have b : Below 0 wr (wr.setCell ⟨g, k, none⟩ v) := (Below.refl 0 wr).setCell (Nat.zero_le _) v
  exact ⟨b.os.trans h.os, b.tape.trans h.tape, b.output.trans h.output, Nat.le_trans h.size b.size, fun j hj hne => (Below.heap_setCell _ _ _ j (by rintro rfl; exact hne rfl)).trans (h.block j hj hne)⟩
/-- two plans in their boxes, a copy of the first in block D, its row of the call's own -/
structure SC (w : World) (q p : Pl.P) (v y u : Value) (D : Nat) (W : World) : Prop where
  below : Below w.heap.size w W
  r1 : Row W w.heap.size 29 (plL q v)
  r2 : Row W (w.heap.size + 1) 29 (plL p y)
  s1 : Bo.RowS W v q.l
  s2 : Bo.RowS W y p.l
  rc : Row W D 29 (plL q u)
  own : W.ownsRow (w.heap.size + 1 + 1) 48 2 u q.l.length (q.l.flatMap Bo.encS)
  ne : ∀ g, u.ownBlock = some g → g ≠ D
theorem SC.next {w W W' : World} {q p : Pl.P} {v y u : Value} {D : Nat} (h : SC w q p v y u D W) (hb : Below W.heap.size W W') : SC w q p v y u D W' := by
  refine ⟨h.below.trans (hb.mono h.below.size), h.r1.below hb, h.r2.below hb, h.s1.below hb, h.s2.below hb, h.rc.below hb, h.own.kept ⟨hb.os, hb.tape, hb.output, hb.size, fun k hk _ => hb.block k hk⟩ (row := none) ?_, h.ne⟩
  rcases h.own.2 with ⟨rfl, _⟩ | ⟨g, cap, cur, rfl, _⟩
  · exact .inl rfl
  · exact .inr (by simp [Value.ownBlock])
theorem SC.drew {w W : World} {q p : Pl.P} {v y u : Value} {D : Nat} (h : SC w q p v y u D W) : SC w q p v y u D W.drew := h.next (Below.refl _ _).drew
theorem SC.c1 {w W : World} {q p : Pl.P} {v y u : Value} {D : Nat} (h : SC w q p v y u D W) : W.cell? ⟨w.heap.size, 0, none⟩ = some (.int .i64 q.k) ∧ W.cell? ⟨w.heap.size, 1, none⟩ = some (.int .u64 q.x.a0) ∧ W.cell? ⟨w.heap.size, 2, none⟩ = some (.int .u64 q.x.a1) ∧ W.cell? ⟨w.heap.size, 3, none⟩ = some (.int .u64 q.x.a2) ∧ W.cell? ⟨w.heap.size, 4, none⟩ = some (.int .u64 q.x.a3) ∧ W.cell? ⟨w.heap.size, 5, none⟩ = some (.int .u64 q.x.a4) ∧ W.cell? ⟨w.heap.size, 6, none⟩ = some (.int .u64 q.x.a5) ∧ W.cell? ⟨w.heap.size, 7, none⟩ = some (.bool q.x.b3) ∧ W.cell? ⟨w.heap.size, 8, none⟩ = some (.bool q.x.b5) ∧ W.cell? ⟨w.heap.size, 9, none⟩ = some (.int .i64 q.z) ∧ W.cell? ⟨w.heap.size, 10, none⟩ = some (.int .i64 q.s) ∧ W.cell? ⟨w.heap.size, 11, none⟩ = some (.int .i64 q.p) ∧ W.cell? ⟨w.heap.size, 12, none⟩ = some (.int .i64 q.c) ∧ W.cell? ⟨w.heap.size, 13, none⟩ = some (v) := ⟨h.r1.cell 0, h.r1.cell 1, h.r1.cell 2, h.r1.cell 3, h.r1.cell 4, h.r1.cell 5, h.r1.cell 6, h.r1.cell 7, h.r1.cell 8, h.r1.cell 9, h.r1.cell 10, h.r1.cell 11, h.r1.cell 12, h.r1.cell 13⟩
theorem SC.c2 {w W : World} {q p : Pl.P} {v y u : Value} {D : Nat} (h : SC w q p v y u D W) : W.cell? ⟨(w.heap.size + 1), 0, none⟩ = some (.int .i64 p.k) ∧ W.cell? ⟨(w.heap.size + 1), 1, none⟩ = some (.int .u64 p.x.a0) ∧ W.cell? ⟨(w.heap.size + 1), 2, none⟩ = some (.int .u64 p.x.a1) ∧ W.cell? ⟨(w.heap.size + 1), 3, none⟩ = some (.int .u64 p.x.a2) ∧ W.cell? ⟨(w.heap.size + 1), 4, none⟩ = some (.int .u64 p.x.a3) ∧ W.cell? ⟨(w.heap.size + 1), 5, none⟩ = some (.int .u64 p.x.a4) ∧ W.cell? ⟨(w.heap.size + 1), 6, none⟩ = some (.int .u64 p.x.a5) ∧ W.cell? ⟨(w.heap.size + 1), 7, none⟩ = some (.bool p.x.b3) ∧ W.cell? ⟨(w.heap.size + 1), 8, none⟩ = some (.bool p.x.b5) ∧ W.cell? ⟨(w.heap.size + 1), 9, none⟩ = some (.int .i64 p.z) ∧ W.cell? ⟨(w.heap.size + 1), 10, none⟩ = some (.int .i64 p.s) ∧ W.cell? ⟨(w.heap.size + 1), 11, none⟩ = some (.int .i64 p.p) ∧ W.cell? ⟨(w.heap.size + 1), 12, none⟩ = some (.int .i64 p.c) ∧ W.cell? ⟨(w.heap.size + 1), 13, none⟩ = some (y) := ⟨h.r2.cell 0, h.r2.cell 1, h.r2.cell 2, h.r2.cell 3, h.r2.cell 4, h.r2.cell 5, h.r2.cell 6, h.r2.cell 7, h.r2.cell 8, h.r2.cell 9, h.r2.cell 10, h.r2.cell 11, h.r2.cell 12, h.r2.cell 13⟩
theorem SC.c3 {w W : World} {q p : Pl.P} {v y u : Value} {D : Nat} (h : SC w q p v y u D W) : W.cell? ⟨D, 0, none⟩ = some (.int .i64 q.k) ∧ W.cell? ⟨D, 1, none⟩ = some (.int .u64 q.x.a0) ∧ W.cell? ⟨D, 2, none⟩ = some (.int .u64 q.x.a1) ∧ W.cell? ⟨D, 3, none⟩ = some (.int .u64 q.x.a2) ∧ W.cell? ⟨D, 4, none⟩ = some (.int .u64 q.x.a3) ∧ W.cell? ⟨D, 5, none⟩ = some (.int .u64 q.x.a4) ∧ W.cell? ⟨D, 6, none⟩ = some (.int .u64 q.x.a5) ∧ W.cell? ⟨D, 7, none⟩ = some (.bool q.x.b3) ∧ W.cell? ⟨D, 8, none⟩ = some (.bool q.x.b5) ∧ W.cell? ⟨D, 9, none⟩ = some (.int .i64 q.z) ∧ W.cell? ⟨D, 10, none⟩ = some (.int .i64 q.s) ∧ W.cell? ⟨D, 11, none⟩ = some (.int .i64 q.p) ∧ W.cell? ⟨D, 12, none⟩ = some (.int .i64 q.c) ∧ W.cell? ⟨D, 13, none⟩ = some (u) := ⟨h.rc.cell 0, h.rc.cell 1, h.rc.cell 2, h.rc.cell 3, h.rc.cell 4, h.rc.cell 5, h.rc.cell 6, h.rc.cell 7, h.rc.cell 8, h.rc.cell 9, h.rc.cell 10, h.rc.cell 11, h.rc.cell 12, h.rc.cell 13⟩
theorem cells14 {W : World} {q : Pl.P} {v : Value} {B : Nat} (h : Row W B 29 (plL q v)) : W.cell? ⟨B, 0, none⟩ = some (.int .i64 q.k) ∧ W.cell? ⟨B, 1, none⟩ = some (.int .u64 q.x.a0) ∧ W.cell? ⟨B, 2, none⟩ = some (.int .u64 q.x.a1) ∧ W.cell? ⟨B, 3, none⟩ = some (.int .u64 q.x.a2) ∧ W.cell? ⟨B, 4, none⟩ = some (.int .u64 q.x.a3) ∧ W.cell? ⟨B, 5, none⟩ = some (.int .u64 q.x.a4) ∧ W.cell? ⟨B, 6, none⟩ = some (.int .u64 q.x.a5) ∧ W.cell? ⟨B, 7, none⟩ = some (.bool q.x.b3) ∧ W.cell? ⟨B, 8, none⟩ = some (.bool q.x.b5) ∧ W.cell? ⟨B, 9, none⟩ = some (.int .i64 q.z) ∧ W.cell? ⟨B, 10, none⟩ = some (.int .i64 q.s) ∧ W.cell? ⟨B, 11, none⟩ = some (.int .i64 q.p) ∧ W.cell? ⟨B, 12, none⟩ = some (.int .i64 q.c) ∧ W.cell? ⟨B, 13, none⟩ = some (v) := ⟨h.cell 0, h.cell 1, h.cell 2, h.cell 3, h.cell 4, h.cell 5, h.cell 6, h.cell 7, h.cell 8, h.cell 9, h.cell 10, h.cell 11, h.cell 12, h.cell 13⟩
set_option maxRecDepth 100000 in
set_option maxHeartbeats 8000000 in
theorem walk (q : Pl.P) (a0 : Option Addr) (cap : Nat) (p : Pl.P) (a1 : Option Addr) (cp : Nat) (w : World) (L : LayM w) (_ : q.x.Bd) (_ : PWf q) (hI : Bo.InS w (.slice a0 q.l.length cap) q.l) (_ : p.x.Bd) (_ : PWf p) (hJ : Bo.InS w (.slice a1 p.l.length cp) p.l) :
    Calls Tryz.prog 5 #[.agg #[.int .i64 q.k, .int .u64 q.x.a0, .int .u64 q.x.a1, .int .u64 q.x.a2, .int .u64 q.x.a3, .int .u64 q.x.a4, .int .u64 q.x.a5, .bool q.x.b3, .bool q.x.b5, .int .i64 q.z, .int .i64 q.s, .int .i64 q.p, .int .i64 q.c, (.slice a0 q.l.length cap)], .agg #[.int .i64 p.k, .int .u64 p.x.a0, .int .u64 p.x.a1, .int .u64 p.x.a2, .int .u64 p.x.a3, .int .u64 p.x.a4, .int .u64 p.x.a5, .bool p.x.b3, .bool p.x.b5, .int .i64 p.z, .int .i64 p.s, .int .i64 p.p, .int .i64 p.c, (.slice a1 p.l.length cp)]] w fun e w' => e = .returned (.bool true) ∧ Below w.heap.size w w' := by
  obtain ⟨b0, r1, r2⟩ := new2 w (plL q (.slice a0 q.l.length cap)) (plL p (.slice a1 p.l.length cp)) 29 29
  have B0 := Lib.hid b0
  have LB := Lib.hid (L.below b0)
  have R1 := Lib.hid r1
  have R2 := Lib.hid r2
  simp only [plL] at B0 LB R1 R2
  clear b0 r1 r2
  by_cases big : 200 < q.l.length
  · have t0 : decide ((200 : Int) < (q.l.length : Int)) = true := by rw [decide_eq_true_iff]; omega
    have t0n : decide (200 < q.l.length) = true := by rw [decide_eq_true_iff]; omega
    clear hI hJ big L
    go_enter Tryz.func5, Tryz.ntmps5
    go_wp2_with fail
    refine (works_any _ LB.out).mono ?_
    rintro e w1 ⟨rfl, hb1⟩
    have BB := Lib.hid (B0.out.trans (hb1.mono (by simp; omega)))
    clear hb1
    go_wp2_with fail
    go_ret
    exact ⟨rfl, BB.out⟩
  have t0 : decide ((200 : Int) < (q.l.length : Int)) = false := by rw [decide_eq_false_iff_not]; omega
  by_cases big2 : 200 < p.l.length
  · have t1 : decide ((200 : Int) < (p.l.length : Int)) = true := by rw [decide_eq_true_iff]; omega
    clear hI hJ big big2 L
    go_enter Tryz.func5, Tryz.ntmps5
    go_wp2_with fail
    refine (works_any _ LB.out).mono ?_
    rintro e w1 ⟨rfl, hb1⟩
    have BB := Lib.hid (B0.out.trans (hb1.mono (by simp; omega)))
    clear hb1
    go_wp2_with fail
    go_ret
    exact ⟨rfl, BB.out⟩
  have t1 : decide ((200 : Int) < (p.l.length : Int)) = false := by rw [decide_eq_false_iff_not]; omega
  have HI := Lib.hid (hI.2.2 (show q.l.length ≤ 1000000 by omega))
  have HJ := Lib.hid (hJ.2.2 (show p.l.length ≤ 1000000 by omega))
  have S1 := Lib.hid (HI.out.below (B0.out))
  have S2 := Lib.hid (HJ.out.below (B0.out))
  have LL := Lib.hid L
  have LN := Lib.hid big
  have PC := Lib.hid (pcopy_any q (.slice a0 q.l.length cap) _ S1.out)
  have RP := Lib.hid (fun W u D (h : SC w q p (.slice a0 q.l.length cap) (.slice a1 p.l.length cp) u D W) => rpcopy_any q (.slice a0 q.l.length cap) W h.s1)
  have E1 := Lib.hid (fun a b va vb W u D (h : SC w q p (.slice a0 q.l.length cap) (.slice a1 p.l.length cp) u D W) ha hb => (peq_any a b va vb (eqP a b) (eqP_iff a b) W ha hb).mono fun e W' (k : e = .returned (.bool (eqP a b)) ∧ Below W.heap.size W W') => (show e = .returned (.bool (eqP a b)) ∧ SC w q p (.slice a0 q.l.length cap) (.slice a1 p.l.length cp) u D W' from ⟨k.1, h.next k.2⟩))
  have E2 := Lib.hid (fun a b va vb W u D (h : SC w q p (.slice a0 q.l.length cap) (.slice a1 p.l.length cp) u D W) ha hb => (rpeq_any a b va vb (eqP a b) (eqP_iff a b) W ha hb).mono fun e W' (k : e = .returned (.bool (eqP a b)) ∧ Below W.heap.size W W') => (show e = .returned (.bool (eqP a b)) ∧ SC w q p (.slice a0 q.l.length cap) (.slice a1 p.l.length cp) u D W' from ⟨k.1, h.next k.2⟩))
  have E3 := Lib.hid (fun va vb W ha hb => rpeq_any q q va vb true (by simp) W ha hb)
  have WK := Lib.hid (fun W L => works_any W L)
  have ES := eqP_self q
  have NN : (eqP q p != eqP q p) = false := by simp
  clear hI hJ big big2 L
  go_enter Tryz.func5, Tryz.ntmps5
  go_wp2_with fail
  refine (PC.out).mono ?_
  rintro e wc ⟨u, rfl, hu⟩
  obtain ⟨Ua, Uc, rfl⟩ := hu.len
  have C0 : Hid (SC w q p (.slice a0 q.l.length cap) (.slice a1 p.l.length cp) (.slice Ua q.l.length Uc) wc.heap.size (wc.alloc (.cells #[.int .i64 q.k, .int .u64 q.x.a0, .int .u64 q.x.a1, .int .u64 q.x.a2, .int .u64 q.x.a3, .int .u64 q.x.a4, .int .u64 q.x.a5, .bool q.x.b3, .bool q.x.b5, .int .i64 q.z, .int .i64 q.s, .int .i64 q.p, .int .i64 q.c, (.slice Ua q.l.length Uc)] 29))) := Lib.hid (by
    have bs := hu.below
    refine ⟨(B0.out.trans (bs.mono (by simp; omega))).alloc (by have := bs.size; simp at this; omega) _, ?_, ?_, (S1.out.below bs).alloc _, (S2.out.below bs).alloc _, Row.new wc (plL q (.slice Ua q.l.length Uc)) _, World.ownsRow.alloc (by have := hu.row; simpa using this) _, ?_⟩
    · exact (R1.out.below bs).alloc _
    · exact (R2.out.below bs).alloc _
    · intro g hg e
      have := (hu.row.lt g hg).2
      omega)
  clear hu
  obtain ⟨c0, c1, c2, c3, c4, c5, c6, c7, c8, c9, c10, c11, c12, c13⟩ := C0.out.c1
  obtain ⟨d0, d1, d2, d3, d4, d5, d6, d7, d8, d9, d10, d11, d12, d13⟩ := C0.out.c2
  obtain ⟨f0, f1, f2, f3, f4, f5, f6, f7, f8, f9, f10, f11, f12, f13⟩ := C0.out.c3
  have QR := C0
  go_wp2_with fail
  go_region_held3 (fun w' => (w'.cell? ⟨w.heap.size, 0, none⟩ = some (.int .i64 q.k) ∧ w'.cell? ⟨w.heap.size, 1, none⟩ = some (.int .u64 q.x.a0) ∧ w'.cell? ⟨w.heap.size, 2, none⟩ = some (.int .u64 q.x.a1) ∧ w'.cell? ⟨w.heap.size, 3, none⟩ = some (.int .u64 q.x.a2) ∧ w'.cell? ⟨w.heap.size, 4, none⟩ = some (.int .u64 q.x.a3) ∧ w'.cell? ⟨w.heap.size, 5, none⟩ = some (.int .u64 q.x.a4) ∧ w'.cell? ⟨w.heap.size, 6, none⟩ = some (.int .u64 q.x.a5) ∧ w'.cell? ⟨w.heap.size, 7, none⟩ = some (.bool q.x.b3) ∧ w'.cell? ⟨w.heap.size, 8, none⟩ = some (.bool q.x.b5) ∧ w'.cell? ⟨w.heap.size, 9, none⟩ = some (.int .i64 q.z) ∧ w'.cell? ⟨w.heap.size, 10, none⟩ = some (.int .i64 q.s) ∧ w'.cell? ⟨w.heap.size, 11, none⟩ = some (.int .i64 q.p) ∧ w'.cell? ⟨w.heap.size, 12, none⟩ = some (.int .i64 q.c) ∧ w'.cell? ⟨w.heap.size, 13, none⟩ = some ((.slice a0 q.l.length cap))) ∧ (w'.cell? ⟨(w.heap.size + 1), 0, none⟩ = some (.int .i64 p.k) ∧ w'.cell? ⟨(w.heap.size + 1), 1, none⟩ = some (.int .u64 p.x.a0) ∧ w'.cell? ⟨(w.heap.size + 1), 2, none⟩ = some (.int .u64 p.x.a1) ∧ w'.cell? ⟨(w.heap.size + 1), 3, none⟩ = some (.int .u64 p.x.a2) ∧ w'.cell? ⟨(w.heap.size + 1), 4, none⟩ = some (.int .u64 p.x.a3) ∧ w'.cell? ⟨(w.heap.size + 1), 5, none⟩ = some (.int .u64 p.x.a4) ∧ w'.cell? ⟨(w.heap.size + 1), 6, none⟩ = some (.int .u64 p.x.a5) ∧ w'.cell? ⟨(w.heap.size + 1), 7, none⟩ = some (.bool p.x.b3) ∧ w'.cell? ⟨(w.heap.size + 1), 8, none⟩ = some (.bool p.x.b5) ∧ w'.cell? ⟨(w.heap.size + 1), 9, none⟩ = some (.int .i64 p.z) ∧ w'.cell? ⟨(w.heap.size + 1), 10, none⟩ = some (.int .i64 p.s) ∧ w'.cell? ⟨(w.heap.size + 1), 11, none⟩ = some (.int .i64 p.p) ∧ w'.cell? ⟨(w.heap.size + 1), 12, none⟩ = some (.int .i64 p.c) ∧ w'.cell? ⟨(w.heap.size + 1), 13, none⟩ = some ((.slice a1 p.l.length cp))) ∧ (w'.cell? ⟨wc.heap.size, 0, none⟩ = some (.int .i64 q.k) ∧ w'.cell? ⟨wc.heap.size, 1, none⟩ = some (.int .u64 q.x.a0) ∧ w'.cell? ⟨wc.heap.size, 2, none⟩ = some (.int .u64 q.x.a1) ∧ w'.cell? ⟨wc.heap.size, 3, none⟩ = some (.int .u64 q.x.a2) ∧ w'.cell? ⟨wc.heap.size, 4, none⟩ = some (.int .u64 q.x.a3) ∧ w'.cell? ⟨wc.heap.size, 5, none⟩ = some (.int .u64 q.x.a4) ∧ w'.cell? ⟨wc.heap.size, 6, none⟩ = some (.int .u64 q.x.a5) ∧ w'.cell? ⟨wc.heap.size, 7, none⟩ = some (.bool q.x.b3) ∧ w'.cell? ⟨wc.heap.size, 8, none⟩ = some (.bool q.x.b5) ∧ w'.cell? ⟨wc.heap.size, 9, none⟩ = some (.int .i64 q.z) ∧ w'.cell? ⟨wc.heap.size, 10, none⟩ = some (.int .i64 q.s) ∧ w'.cell? ⟨wc.heap.size, 11, none⟩ = some (.int .i64 q.p) ∧ w'.cell? ⟨wc.heap.size, 12, none⟩ = some (.int .i64 q.c) ∧ w'.cell? ⟨wc.heap.size, 13, none⟩ = some ((.slice Ua q.l.length Uc)))) (go_keep)
    (first | (go_at_call 28; refine (E1.out _ _ _ _ _ _ _ (by first | exact QR.out | exact QR.out.drew) (by first | exact QR.out.s1 | exact QR.out.drew.s1) (by first | exact QR.out.s2 | exact QR.out.drew.s2 | exact Bo.rowS_own QR.out.own (by have := LN.out; omega) | exact Bo.rowS_own QR.out.drew.own (by have := LN.out; omega))).mono ?_; rintro e w20 ⟨rfl, q'⟩; have QR := Lib.hid q'; clear q'; obtain ⟨c0, c1, c2, c3, c4, c5, c6, c7, c8, c9, c10, c11, c12, c13⟩ := QR.out.c1; obtain ⟨d0, d1, d2, d3, d4, d5, d6, d7, d8, d9, d10, d11, d12, d13⟩ := QR.out.c2; obtain ⟨f0, f1, f2, f3, f4, f5, f6, f7, f8, f9, f10, f11, f12, f13⟩ := QR.out.c3) | (go_at_call 21; refine (E2.out _ _ _ _ _ _ _ (by first | exact QR.out | exact QR.out.drew) (by first | exact QR.out.s1 | exact QR.out.drew.s1) (by first | exact QR.out.s2 | exact QR.out.drew.s2 | exact Bo.rowS_own QR.out.own (by have := LN.out; omega) | exact Bo.rowS_own QR.out.drew.own (by have := LN.out; omega))).mono ?_; rintro e w20 ⟨rfl, q'⟩; have QR := Lib.hid q'; clear q'; obtain ⟨c0, c1, c2, c3, c4, c5, c6, c7, c8, c9, c10, c11, c12, c13⟩ := QR.out.c1; obtain ⟨d0, d1, d2, d3, d4, d5, d6, d7, d8, d9, d10, d11, d12, d13⟩ := QR.out.c2; obtain ⟨f0, f1, f2, f3, f4, f5, f6, f7, f8, f9, f10, f11, f12, f13⟩ := QR.out.c3))
  obtain ⟨c0, c1, c2, c3, c4, c5, c6, c7, c8, c9, c10, c11, c12, c13⟩ := QR.out.c1
  go_wp2_with fail
  refine (RP.out _ _ _ QR.out).mono ?_
  rintro e w6 ⟨u2, rfl, hu2⟩
  obtain ⟨Ta, Tc, rfl⟩ := hu2.len
  have QS := Lib.hid (QR.out.next hu2.below)
  have O2 := Lib.hid (hu2.alloc (.cells #[.int .i64 q.k, .int .u64 q.x.a0, .int .u64 q.x.a1, .int .u64 q.x.a2, .int .u64 q.x.a3, .int .u64 q.x.a4, .int .u64 q.x.a5, .bool q.x.b3, .bool q.x.b5, .int .i64 q.z, .int .i64 q.s, .int .i64 q.p, .int .i64 q.c, (.slice Ta q.l.length Tc)] 29))
  have QT := Lib.hid (QS.out.next ((Below.refl _ w6).alloc (Nat.le_refl _) (.cells #[.int .i64 q.k, .int .u64 q.x.a0, .int .u64 q.x.a1, .int .u64 q.x.a2, .int .u64 q.x.a3, .int .u64 q.x.a4, .int .u64 q.x.a5, .bool q.x.b3, .bool q.x.b5, .int .i64 q.z, .int .i64 q.s, .int .i64 q.p, .int .i64 q.c, (.slice Ta q.l.length Tc)] 29)))
  have RE := Lib.hid (Row.new w6 (plL q (.slice Ta q.l.length Tc)) 29)
  have UG := Lib.hid (fun g (hg : Value.ownBlock (.slice Ua q.l.length Uc) = some g) => And.intro (QR.out.own.lt g hg).1 (QR.out.own.lt g hg).2)
  have WG := Lib.hid hu2.below.size
  clear hu2 QS c0 c1 c2 c3 c4 c5 c6 c7 c8 c9 c10 c11 c12 c13
  obtain ⟨W7, hW7⟩ : ∃ W7, w6.alloc (.cells #[.int .i64 q.k, .int .u64 q.x.a0, .int .u64 q.x.a1, .int .u64 q.x.a2, .int .u64 q.x.a3, .int .u64 q.x.a4, .int .u64 q.x.a5, .bool q.x.b3, .bool q.x.b5, .int .i64 q.z, .int .i64 q.s, .int .i64 q.p, .int .i64 q.c, (.slice Ta q.l.length Tc)] 29) = W7 := ⟨_, rfl⟩
  simp only [plL] at RE
  rw [hW7] at O2 QT RE
  have HW7 := Lib.hid hW7
  clear hW7
  go_wp2_with fail
  simp only [HW7.out]
  go_loopw [7] (fun iv wr => ∃ k : Nat, k ≤ q.l.length ∧ iv = .int .i64 k ∧ Hid (W7.grownBy wr (Value.ownBlock (.slice Ua q.l.length Uc))) ∧ Hid (∀ g, Value.ownBlock (.slice Ua q.l.length Uc) = some g → ∃ cs, Row wr g 48 cs ∧ q.l.length * 2 ≤ cs.length)) (fun iv _ => q.l.length - (intOf iv).toNat)
  case atStart =>
    refine ⟨0, by omega, rfl, Lib.hid ⟨rfl, rfl, rfl, Nat.le_refl _, fun _ _ _ => rfl⟩, Lib.hid ?_⟩
    intro g hg
    rcases QT.out.own.2 with ⟨e, _⟩ | ⟨g', c', cur, e, _, hh, hc, _, hs, _⟩
    · rw [e] at hg; cases hg
    · rw [e] at hg
      obtain rfl : g' = g := by simpa [Value.ownBlock] using hg
      exact ⟨cur.toList, by simpa [Row] using hh, by simp; omega⟩
  case round =>
    obtain ⟨k, hk, rfl, hg, hr⟩ := hrel
    have ND : some wc.heap.size ≠ Value.ownBlock (.slice Ua q.l.length Uc) := fun e => QT.out.ne _ e.symm rfl
    have RD := Lib.hid (row_grown QT.out.rc hg.out ND)
    have d13 := RD.out.cell 13
    simp only [plL, List.getElem?_cons_zero, List.getElem?_cons_succ] at d13
    by_cases lt : k < q.l.length
    · have e0 : decide ((k : Int) < (q.l.length : Int)) = true := by rw [decide_eq_true_iff]; omega
      have e0n : decide (k < q.l.length) = true := by rw [decide_eq_true_iff]; omega
      have wi : IntKind.i64.wrap ((k : Int) + 1) = (k : Int) + 1 := by have := LN.out; rw [IntKind.wrap_i64]; omega
      obtain ⟨g, rfl⟩ : ∃ g, Ua = some ⟨g, 0, none⟩ := by
        rcases QT.out.own.2 with ⟨_, e⟩ | ⟨g, c', cur, e, _⟩
        · omega
        · cases e; exact ⟨g, rfl⟩
      obtain ⟨cs, hcs, hl⟩ := hr.out g rfl
      obtain ⟨x0, hx0⟩ : ∃ x, wr.cell? ⟨g, k * 2, none⟩ = some x := ⟨_, (hcs.cell _).trans (List.getElem?_eq_getElem (by omega))⟩
      obtain ⟨x1, hx1⟩ : ∃ x, wr.cell? ⟨g, k * 2 + 1, none⟩ = some x := ⟨_, (hcs.cell _).trans (List.getElem?_eq_getElem (by omega))⟩
      have f0 := hcs.free (k * 2)
      have f1 := hcs.free (k * 2 + 1)
      have HG := Lib.hid (grown_set (k := k * 2 + 1) (v := .int .i64 0) (grown_set (k := k * 2) (v := .int .i64 (-1)) hg.out))
      have HR := Lib.hid (show ∀ g', Value.ownBlock (.slice (some ⟨g, 0, none⟩) q.l.length Uc) = some g' → ∃ cs, Row ((wr.setCell ⟨g, k * 2, none⟩ (.int .i64 (-1))).setCell ⟨g, k * 2 + 1, none⟩ (.int .i64 0)) g' 48 cs ∧ q.l.length * 2 ≤ cs.length from fun g' hg' => by
        obtain rfl : g = g' := by simpa [Value.ownBlock] using hg'
        exact ⟨_, (hcs.set (k * 2) _).set (k * 2 + 1) _, by simpa using hl⟩)
      have KL := Lib.hid lt
      clear hcs hl hr hg lt ND
      go_wp2_with fail
      go_roundw
      case rel => exact ⟨k + 1, by have := KL.out; omega, by first | rfl | go_num, HG, HR⟩
      case measure => have := KL.out; simp [intOf]; omega
    · have e0 : decide ((k : Int) < (q.l.length : Int)) = false := by rw [decide_eq_false_iff_not]; omega
      have e0n : decide (k < q.l.length) = false := by rw [decide_eq_false_iff_not]; omega
      have e0m : ¬ k < q.l.length := lt
      have BW : Hid (Below w.heap.size w wr) := Lib.hid (QT.out.below.grown hg.out QT.out.below.size (fun g e => by have := (UG.out g e).1; omega))
      have RA := row_grown QT.out.r1 hg.out (fun e => by have := (UG.out _ e.symm).1; omega)
      have RB := row_grown RE.out hg.out (fun e => by have := (UG.out _ e.symm).2; have := WG.out; omega)
      obtain ⟨c0, c1, c2, c3, c4, c5, c6, c7, c8, c9, c10, c11, c12, c13⟩ := cells14 (q := q) (v := (.slice a0 q.l.length cap)) RA
      obtain ⟨d0, d1, d2, d3, d4, d5, d6, d7, d8, d9, d10, d11, d12, d13⟩ := cells14 (q := q) (v := (.slice Ta q.l.length Tc)) RB
      have SU2 : Hid (Bo.RowS wr (.slice Ta q.l.length Tc) q.l) := Lib.hid (by
        refine Bo.rowS_own (O2.out.row.kept hg.out ?_) (by have := LN.out; omega)
        by_cases z : Value.ownBlock (.slice Ta q.l.length Tc) = none
        · exact .inl z
        · refine .inr fun e => ?_
          obtain ⟨g, hgg⟩ := Option.ne_none_iff_exists'.1 z
          have a1 := (O2.out.row.lt g hgg).1
          have a2 := (UG.out g (e.symm.trans hgg)).2
          omega)
      have E4 := Lib.hid (E3.out (.slice a0 q.l.length cap) (.slice Ta q.l.length Tc) wr (HI.out.below BW.out) SU2.out)
      have LW := Lib.hid (LL.out.below BW.out)
      clear RA RB lt hg hr ND
      go_wp2_with fail
      refine (E4.out).mono ?_
      rintro e w8 ⟨rfl, hb8⟩
      have B8 := Lib.hid (BW.out.trans (hb8.mono BW.out.size))
      have LX := Lib.hid (LW.out.below hb8)
      clear hb8
      go_wp2_with fail
      refine (WK.out _ LX.out).mono ?_
      rintro e w9 ⟨rfl, hb9⟩
      have B9 := Lib.hid (B8.out.trans (hb9.mono B8.out.size))
      clear hb9
      go_wp2_with fail
      go_ret
      exact ⟨rfl, B9.out⟩

set_option maxRecDepth 100000 in
theorem lifted (os : Os) (started : os.Started) (H : Type) (enc : TypeId × Value → H) :
    ReturnsInHanded {} Tryz.checked os 5 .any (fun w args => (Rows.planSamesSpec.pre enc Tryz.prog Tryz.f5 [] false w args ∧ laidMetH Tryz.prog Rows.planSamesRow.laid w) ∧ sizedMet enc Tryz.prog Tryz.f5 (OpenSpec.ofChange Rows.planSamesSpec) false w args)
      (Rows.planSamesSpec.post enc Tryz.prog Tryz.f5 false true false false) := by
  refine returnsInHanded_of_change_and (C := Tryz.checked) (X := fun w _ => laidMetH Tryz.prog Rows.planSamesRow.laid w) (fun _ _ _ hh h => h.of_heap hh) own started (by kernel_rfl) Tryz.func5
    (ChangeSpec.witness_shaped (enc := enc) (C := Tryz.checked) (os := os) (X := fun w _ => laidMetH Tryz.prog Rows.planSamesRow.laid w) false (World.laidAll Tryz.prog os Rows.planSamesRow.laid) #[.agg #[.int .i64 0, .int .u64 0, .int .u64 0, .int .u64 0, .int .u64 0, .int .u64 0, .int .u64 0, .bool false, .bool false, .int .i64 0, .int .i64 0, .int .i64 0, .int .i64 0, .slice none 0 0], .agg #[.int .i64 0, .int .u64 0, .int .u64 0, .int .u64 0, .int .u64 0, .int .u64 0, .int .u64 0, .bool false, .bool false, .int .i64 0, .int .i64 0, .int .i64 0, .int .i64 0, .slice none 0 0]] 8 (World.laidAll_os _ _ _) (World.shaped_of_ZipB (by kernel_rfl) (by kernel_rfl)) (by kernel_rfl) (by kernel_rfl) (by kernel_rfl) (by rw [MakeChecks.laidMetH_plain _ _ _ (by kernel_rfl)]; exact laidMet_laidAll _ (by kernel_rfl) (by kernel_rfl))) ?_
  intro W base args ds gs before hval0 hW _ _ hL _
  have hval : ∀ (j : Nat) t v, Tryz.f5.params[j]? = some t → args[j]? = some v → Value.okWide Tryz.prog W .any base t v := hval0
  have hW' := hW
  obtain ⟨p, q, hA0, hV, rfl, hfz, hnd⟩ := hW
  have hA : DataW.TrodAll enc Tryz.prog W 0 (fun _ => true) true Tryz.f5.params.toList args.toList ds p := hA0
  rw [Tryz.params5] at hA hval
  obtain ⟨v0, vs0, d0, ds0, p0, q0, hargs, rfl, rfl, h0, r0⟩ := trodAll_cons hA
  obtain ⟨v1, vs1, d1, ds1, p1, q1, rfl, rfl, rfl, h1, r1⟩ := trodAll_cons r0
  obtain ⟨rfl, rfl, rfl⟩ := trodAll_nil r1
  obtain rfl : args = #[v0, v1] := by cases args; simp_all
  obtain ⟨rfl, rfl⟩ := trodVars_none hV
  obtain ⟨pl0, a0, cap0, rfl, b0, w0, i0⟩ := open_plan (hval 0 29 v0 rfl rfl) h0
  have k0 := h0
  have lt0 : ∀ x ∈ p0, x.block < W.heap.size := by obtain ⟨m, hm⟩ := k0; exact DataW.trod_lt m _ _ _ hm
  obtain ⟨pl1, a1, cap1, rfl, b1, w1, i1⟩ := open_plan (hval 1 29 v1 rfl rfl) h1
  have k1 := h1
  have lt1 : ∀ x ∈ p1, x.block < W.heap.size := by obtain ⟨m, hm⟩ := k1; exact DataW.trod_lt m _ _ _ hm
  clear hA0 hval0
  refine (walk pl0 a0 cap0 pl1 a1 cap1 W (layM_of _ W (by kernel_rfl) (.head _) (.tail _ (.head _)) (by kernel_rfl) (by kernel_rfl) hL) b0 w0 i0 b1 w1 i1).mono fun e W' ⟨he, bel⟩ => ?_
  subst he
  exact ⟨_, rfl, _, _, _, [], _, [], hW', trodAll_mk1 (shut_bool Tryz.underlying4 _), (trodAll_cons_mk (Below.trod laidOut (by kernel_rfl) (of_decide_eq_true (by kernel_rfl)) k0 bel lt0) (trodAll_cons_mk (Below.trod laidOut (by kernel_rfl) (of_decide_eq_true (by kernel_rfl)) k1 bel lt1) trodAll_mk0)), rfl, bel.frame _, fun h => by cases h⟩

theorem row_holds : Rows.PlanSamesSaid :=
  OpenClaim.holds_of_wide 5 Tryz.f5 rfl rfl rfl rfl rfl rfl rfl ⟨rfl, rfl, rfl, rfl, rfl⟩ rfl rfl rfl rfl rfl (by kernel_rfl) Tryz.func5 (by kernel_rfl)
    (of_decide_eq_true (by kernel_rfl)) (by unfold Func.isWrapper; first | (rw [if_pos (by decide +kernel)]; kernel_rfl) | (rw [if_neg (by decide +kernel)]; exact ⟨rfl, rfl⟩))
    (fun os started H enc _ => lifted os started H enc)

theorem proved : Rows.PlanSamesCardSaid :=
  Claim7.holds_tied_plain_at .later [] Rows.planSamesCard.laidKinds true Rows.planSamesCard.stood.harness Rows.planSamesCard.stood.looks
    row_holds (fun _ h => by cases h) (by kernel_rfl) (fun _ h => by cases h) planSames_row_tie rfl ⟨rfl, rfl⟩ (by kernel_rfl) rfl
    (fun f fn hf hfn => by
      obtain rfl : f = 5 := Option.some.inj ((show Tryz.prog.funcNamed Rows.planSamesRow.func = some 5 by kernel_rfl).symm.trans hf) |>.symm
      obtain rfl : fn = Tryz.f5 := (Option.some.inj (Tryz.func5.symm.trans hfn)).symm
      exact ⟨looks0, fun j t ht => by
        rw [Tryz.params5] at ht
        have hm : t ∈ [29, 29] := by simpa using Array.mem_of_getElem? ht
        have hall : ([29, 29].all fun u => !Tryz.prog.wantsStandIn u) = true := by kernel_rfl
        exact (show Tryz.prog.wantsStandIn t = false by simpa using List.all_eq_true.1 hall t hm)⟩)
    (by kernel_rfl)

end Go.Proofs.YtljackjcgfaanaaGreatDoor.planSames
