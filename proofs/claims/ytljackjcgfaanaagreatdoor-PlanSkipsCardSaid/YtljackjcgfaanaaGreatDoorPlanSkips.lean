/- For every plan, time and span, PlanSkips returns true: a plan has a time exactly if it has it without its spans, and no span has it; a further span takes away just the times in it. Condition: the program's tables start as its text lays them (tied). -/
import Derived.Test.YtljackjcgfaanaaGreatDoorPlaArg
import Derived.Test.YtljackjcgfaanaaGreatDoorPlaSk
import Derived.Test.YtljackjcgfaanaaGreatDoorPlaAny
namespace Go.Proofs.YtljackjcgfaanaaGreatDoor.planSkips
open Go.ChangeShapes Go.WideShapes Go.ChangeAt Go.RowKit Go.ChangeMaps

/-- the plan and the span in their boxes -/
structure SK (w : World) (q : Pl.P) (v : Value) (f g : Int) (W : World) : Prop where
  below : Below w.heap.size w W
  lay : LayM W
  r1 : Row W w.heap.size 29 (plL q v)
  r2 : Row W (w.heap.size + 1) 48 [.int .i64 f, .int .i64 g]
  sp : Bo.RowS W v q.l
theorem SK.next {w W W' : World} {q : Pl.P} {v : Value} {f g : Int} (h : SK w q v f g W) (hb : Below W.heap.size W W') : SK w q v f g W' := ⟨h.below.trans (hb.mono h.below.size), h.lay.below hb, h.r1.below hb, h.r2.below hb, h.sp.below hb⟩
theorem SK.alloc {w W : World} {q : Pl.P} {v : Value} {f g : Int} (h : SK w q v f g W) (o : Obj) : SK w q v f g (W.alloc o) := h.next ((Below.refl _ _).alloc (Nat.le_refl _) o)
theorem SK.c1 {w W : World} {q : Pl.P} {v : Value} {f g : Int} (h : SK w q v f g W) : W.cell? ⟨w.heap.size, 0, none⟩ = some (.int .i64 q.k) ∧ W.cell? ⟨w.heap.size, 1, none⟩ = some (.int .u64 q.x.a0) ∧ W.cell? ⟨w.heap.size, 2, none⟩ = some (.int .u64 q.x.a1) ∧ W.cell? ⟨w.heap.size, 3, none⟩ = some (.int .u64 q.x.a2) ∧ W.cell? ⟨w.heap.size, 4, none⟩ = some (.int .u64 q.x.a3) ∧ W.cell? ⟨w.heap.size, 5, none⟩ = some (.int .u64 q.x.a4) ∧ W.cell? ⟨w.heap.size, 6, none⟩ = some (.int .u64 q.x.a5) ∧ W.cell? ⟨w.heap.size, 7, none⟩ = some (.bool q.x.b3) ∧ W.cell? ⟨w.heap.size, 8, none⟩ = some (.bool q.x.b5) ∧ W.cell? ⟨w.heap.size, 9, none⟩ = some (.int .i64 q.z) ∧ W.cell? ⟨w.heap.size, 10, none⟩ = some (.int .i64 q.s) ∧ W.cell? ⟨w.heap.size, 11, none⟩ = some (.int .i64 q.p) ∧ W.cell? ⟨w.heap.size, 12, none⟩ = some (.int .i64 q.c) ∧ W.cell? ⟨w.heap.size, 13, none⟩ = some (v) := ⟨h.r1.cell 0, h.r1.cell 1, h.r1.cell 2, h.r1.cell 3, h.r1.cell 4, h.r1.cell 5, h.r1.cell 6, h.r1.cell 7, h.r1.cell 8, h.r1.cell 9, h.r1.cell 10, h.r1.cell 11, h.r1.cell 12, h.r1.cell 13⟩
theorem SK.c2 {w W : World} {q : Pl.P} {v : Value} {f g : Int} (h : SK w q v f g W) : W.cell? ⟨w.heap.size + 1, 0, none⟩ = some (.int .i64 f) ∧ W.cell? ⟨w.heap.size + 1, 1, none⟩ = some (.int .i64 g) := ⟨h.r2.cell 0, h.r2.cell 1⟩
theorem cells14 {W : World} {q : Pl.P} {v : Value} {B : Nat} (h : Row W B 29 (plL q v)) : W.cell? ⟨B, 0, none⟩ = some (.int .i64 q.k) ∧ W.cell? ⟨B, 1, none⟩ = some (.int .u64 q.x.a0) ∧ W.cell? ⟨B, 2, none⟩ = some (.int .u64 q.x.a1) ∧ W.cell? ⟨B, 3, none⟩ = some (.int .u64 q.x.a2) ∧ W.cell? ⟨B, 4, none⟩ = some (.int .u64 q.x.a3) ∧ W.cell? ⟨B, 5, none⟩ = some (.int .u64 q.x.a4) ∧ W.cell? ⟨B, 6, none⟩ = some (.int .u64 q.x.a5) ∧ W.cell? ⟨B, 7, none⟩ = some (.bool q.x.b3) ∧ W.cell? ⟨B, 8, none⟩ = some (.bool q.x.b5) ∧ W.cell? ⟨B, 9, none⟩ = some (.int .i64 q.z) ∧ W.cell? ⟨B, 10, none⟩ = some (.int .i64 q.s) ∧ W.cell? ⟨B, 11, none⟩ = some (.int .i64 q.p) ∧ W.cell? ⟨B, 12, none⟩ = some (.int .i64 q.c) ∧ W.cell? ⟨B, 13, none⟩ = some (v) := ⟨h.cell 0, h.cell 1, h.cell 2, h.cell 3, h.cell 4, h.cell 5, h.cell 6, h.cell 7, h.cell 8, h.cell 9, h.cell 10, h.cell 11, h.cell 12, h.cell 13⟩
/-! the drawn region: two appends and a store -/
def mL (q : Pl.P) (f g : Int) : List (Int × Int) := q.l ++ [(f, g)]
theorem own_set {wr : World} {base b k n : Nat} {u v : Value} {xs : List Value} (h : wr.ownsRow base 48 2 u n xs) (hb : b < base) : (wr.setCell ⟨b, k, none⟩ v).ownsRow base 48 2 u n xs := by
  refine ⟨h.1, ?_⟩
  rcases h.2 with hn | ⟨g, cap, cur, hv, hbg, hg, rest⟩
  · exact .inl hn
  · exact .inr ⟨g, cap, cur, hv, hbg, (Below.heap_setCell _ _ _ g (by simp; omega)).trans hg, rest⟩
section
variable {ops : Array Oper} {o : Oper} {a : Act} {w : World} {K : Act → World → Prop} {Q : Exit → Act → World → Prop} {E : Prop}
/-- append of a slice of spans to one of the call's own, as one step of a region that draws -/
theorem step_append_rowS (hgd : o.guard = none) (s x : Operand) (ho : o.op = .call { callee := .builtin .append, args := #[s, x], argTypes := #[27, 27] })
    (base : Nat) (v : Value) (n : Nat) (xs : List Value) (hs : a.eval s = v) (hown : w.ownsRow base 48 2 v n xs) (vx : Value) (l : List (Int × Int)) (hx : a.eval x = vx) (hr : Bo.RowS w vx l) (hn : n + l.length ≤ 2000000) (hbase : base ≤ w.heap.size)
    (h : ∀ v' w', w'.ownsRow base 48 2 v' (n + l.length) (xs ++ l.flatMap Bo.encS) → w.grownBy w' v.ownBlock → K (a.put o.dst v') w') : if Region.wanted o (yielded ops a.tmps) = true then Oper.wp Tryz.prog o a w K Q else E := by
  have hw : Region.wanted o (yielded ops a.tmps) = true := by simp [Region.wanted, hgd]
  rw [if_pos hw]
  obtain ⟨i0, hi, hz0, hz1, hz2⟩ := info_parts Bo.infoS
  obtain ⟨A, cap, rfl⟩ := hr.len
  cases A with
  | none =>
    obtain ⟨rfl, rfl⟩ := hr.none
    have hrun := run_append_owned_none (P := Tryz.prog) (w := w) base 27 o.type 48 i0 2 Tryz.underlying27 hi v n xs hown
    have hx' : a.eval x = .slice none 0 0 := hx
    unfold Oper.wp
    simp [execOp, ho, resolve, invoke, builtin, hs, hx', hrun, Result.andThen]
    exact h v w (by simpa using hown) ⟨rfl, rfl, rfl, Nat.le_refl _, fun _ _ _ => rfl⟩
  | some ad =>
    obtain ⟨v', w', hrun, h2, h3, _⟩ := run_append_own_at (P := Tryz.prog) w base 27 o.type 48 i0 (.agg #[.int .i64 0, .int .i64 0]) 2 16 Tryz.underlying27 hi hz0 hz1 hz2 rfl (by decide) v n xs hown ad l.length cap (l.flatMap Bo.encS) (Bo.flatS_len l) (fun j u hj => by
      have hjl : j < l.length * 2 := by have := (List.getElem?_eq_some_iff.1 hj).1; rwa [Bo.flatS_len] at this
      obtain ⟨b, off, e, c1, c2⟩ := hr.at (j := j / 2) (by omega)
      cases e
      have g := Bo.flatS_get l (j / 2) (by omega)
      rw [Bo.add_flat]
      by_cases q : j % 2 = 0
      · rw [show j = j / 2 * 2 by omega] at hj ⊢
        rw [g.1] at hj
        cases hj
        rw [c1]
      · rw [show j = j / 2 * 2 + 1 by omega] at hj ⊢
        rw [g.2] at hj
        cases hj
        rw [← Nat.add_assoc, c2]) Bo.flatS_one (by simp [maxLen]; omega) (by omega) hbase
    unfold Oper.wp execOp
    simp only [ho, resolve, invoke, builtin, Sem.run_bind, Sem.run_pure, Result.andThen_ok, List.map_toArray, List.map_cons, List.map_nil, hs, hx, hrun]
    exact h _ _ h2 h3
end
/-- behind the store -/
def SD (q : Pl.P) (f g : Int) (W0 : World) (Bm : Nat) (W : World) : Prop := ∃ Wp u, Below W0.heap.size W0 Wp ∧ Wp.ownsRow W0.heap.size 48 2 u (mL q f g).length ((mL q f g).flatMap Bo.encS) ∧ W = Wp.setCell ⟨Bm, 13, none⟩ u
/-- what was there is kept till the store -/
def MI (q : Pl.P) (f g : Int) (W0 : World) (Bm : Nat) (d : Nat → Bool) (W : World) : Prop := (d 8 = false → Below W0.heap.size W0 W) ∧ (d 8 = true → (∀ j, j < 8 → d j = true) ∧ SD q f g W0 Bm W)
theorem MI.no8 {q : Pl.P} {f g : Int} {W0 W : World} {Bm i : Nat} {d : Nat → Bool} (h : MI q f g W0 Bm d W) (hi : i < 8) (hd : d i = false) : d 8 = false := by
  cases k : d 8 with
  | false => rfl
  | true => have := (h.2 k).1 i hi; rw [hd] at this; cases this
theorem MI.step {q : Pl.P} {f g : Int} {W0 W W' : World} {Bm i : Nat} {d : Nat → Bool} (h : MI q f g W0 Bm d W) (hi : i < 8) (hd : d i = false) (hb : Below W0.heap.size W0 W → Below W0.heap.size W0 W') : MI q f g W0 Bm (fun j => if j = i then true else d j) W' := by
  have h8 := h.no8 hi hd
  have e : (fun j => if j = i then true else d j) 8 = false := by simp only; rw [if_neg (by omega)]; exact h8
  exact ⟨fun _ => hb (h.1 h8), fun k => by rw [e] at k; cases k⟩
theorem MI.last {q : Pl.P} {f g : Int} {W0 W : World} {Bm : Nat} {d : Nat → Bool} {u : Value} (hd : ∀ j, j < 8 → d j = true) (hb : Below W0.heap.size W0 W) (ho : W.ownsRow W0.heap.size 48 2 u (mL q f g).length ((mL q f g).flatMap Bo.encS)) : MI q f g W0 Bm (fun j => if j = 8 then true else d j) (W.setCell ⟨Bm, 13, none⟩ u) :=
  ⟨fun k => by simp at k, fun _ => ⟨fun j hj => by simp only; rw [if_neg (by omega)]; exact hd j hj, W, u, hb, ho, rfl⟩⟩
theorem grow_below {W0 W W' : World} {base : Nat} {v : Value} {n : Nat} {xs : List Value} (hb : Below W0.heap.size W0 W) (hg : W.grownBy W' v.ownBlock) (ho : W.ownsRow base 48 2 v n xs) (h0 : W0.heap.size ≤ base) : Below W0.heap.size W0 W' :=
  hb.grown hg hb.size (fun k hk => Nat.le_trans h0 (ho.lt k hk).1)
/-- a span of the call's own in a block, apart from another value's block -/
def SpB (W : World) (f g : Int) (v : Value) (p : Prop) (u : Value) : Prop := ∃ b, v = .slice (some ⟨b, 0, none⟩) 1 1 ∧ Row W b 48 [.int .i64 f, .int .i64 g] ∧ (p → u.ownBlock ≠ some b)
theorem SpB.rowS {W : World} {f g : Int} {v u : Value} {p : Prop} (h : SpB W f g v p u) : Bo.RowS W v [(f, g)] := by
  obtain ⟨b, rfl, r, _⟩ := h
  refine ⟨by simp, (fun n c h => by cases h), _, _, rfl, fun j hj => ⟨b, 0, rfl, ?_⟩⟩
  obtain rfl : j = 0 := by simp at hj; omega
  exact ⟨r.cell 0, r.cell 1⟩
/-- the world behind the region -/
theorem SD.out {w W0 Z : World} {q : Pl.P} {v : Value} {f g : Int} {Bm : Nat} (h : SD q f g W0 Bm Z) (L : LayM w) (hB : w.heap.size + 2 ≤ Bm) (hm : Bm < W0.heap.size) (k : SK w q v f g W0) (r : Row W0 Bm 29 (plL q v)) (hv : Bo.RowS w v q.l) (hl : q.l.length ≤ 63) :
    ∃ Ua Uc, SK w q v f g Z ∧ Row Z Bm 29 (plL q (.slice Ua (mL q f g).length Uc)) ∧ Bo.RowS Z (.slice Ua (mL q f g).length Uc) (mL q f g) := by
  obtain ⟨Wp, u, hb, ho, rfl⟩ := h
  have l1 : (mL q f g).length ≤ 1000000 := by simp [mL]; omega
  have ho' := own_set (k := 13) (v := u) ho hm
  have hrow := Bo.rowS_own ho' l1
  obtain ⟨Ua, Uc, rfl⟩ := hrow.len
  have B1 : Below w.heap.size w (Wp.setCell ⟨Bm, 13, none⟩ (.slice Ua (mL q f g).length Uc)) := (k.below.trans (hb.mono k.below.size)).setCell (show w.heap.size ≤ Bm by omega) _
  refine ⟨Ua, Uc, ⟨B1, L.below B1, (k.r1.below hb).other _ _ (by simp; omega), (k.r2.below hb).other _ _ (by simp; omega), hv.below B1⟩, ?_, hrow⟩
  exact (r.below hb).set 13 _
def SI (w : World) (q : Pl.P) (v : Value) (f g' : Int) (W0 : World) (Bm : Nat) (u0 u1 u2 u3 u4 u5 u6 u7 u8 u9 u10 u11 u12 u13 u14 u15 u16 u17 u18 u19 u20 u21 u22 u23 u24 u25 u26 u27 u28 u29 u30 u31 u32 u33 u34 u35 u36 u37 u38 u39 u40 u41 u42 u43 u44 u45 u46 u47 u48 u49 u50 u51 u52 u53 u54 u55 u56 u57 u58 u59 u60 u61 u62 u63 u64 u65 u66 u67 u68 u69 u70 u71 u72 u73 u74 u75 u76 u85 u86 u87 u88 u89 u90 u91 u92 u93 u94 u95 u96 u97 u98 u99 u100 u101 u102 u103 u104 u105 u106 u107 u108 u109 u110 u111 u112 u113 u114 u115 u116 u117 u118 u119 u120 u121 u122 u123 u124 u125 u126 u127 u128 u129 u130 u131 u132 u133 : Value) (g : Nat → Bool) (c : Act) (W : World) : Prop := ∃ v77 v78 v79 v80 v81 v82 v83 v84,
  c = { tmps := #[u0, u1, u2, u3, u4, u5, u6, u7, u8, u9, u10, u11, u12, u13, u14, u15, u16, u17, u18, u19, u20, u21, u22, u23, u24, u25, u26, u27, u28, u29, u30, u31, u32, u33, u34, u35, u36, u37, u38, u39, u40, u41, u42, u43, u44, u45, u46, u47, u48, u49, u50, u51, u52, u53, u54, u55, u56, u57, u58, u59, u60, u61, u62, u63, u64, u65, u66, u67, u68, u69, u70, u71, u72, u73, u74, u75, u76, v77, v78, v79, v80, v81, v82, v83, v84, u85, u86, u87, u88, u89, u90, u91, u92, u93, u94, u95, u96, u97, u98, u99, u100, u101, u102, u103, u104, u105, u106, u107, u108, u109, u110, u111, u112, u113, u114, u115, u116, u117, u118, u119, u120, u121, u122, u123, u124, u125, u126, u127, u128, u129, u130, u131, u132, u133], defers := [] } ∧ MI q f g' W0 Bm g W ∧ (g 0 = true → g 3 = false → W.ownsRow W0.heap.size 48 2 v77 0 []) ∧ (g 1 = true → v78 = .pointer (some ⟨w.heap.size, 13, none⟩)) ∧ (g 2 = true → v79 = v) ∧ (g 3 = true → g 6 = false → W.ownsRow W0.heap.size 48 2 v80 q.l.length (q.l.flatMap Bo.encS)) ∧ (g 4 = true → v81 = .agg #[.int .i64 f, .int .i64 g']) ∧ (g 5 = true → g 6 = false → SpB W f g' v82 (g 0 = true ∧ g 3 = false) v77) ∧ (g 6 = true → g 8 = false → g 3 = true ∧ W.ownsRow W0.heap.size 48 2 v83 (mL q f g').length ((mL q f g').flatMap Bo.encS)) ∧ (g 7 = true → v84 = .pointer (some ⟨Bm, 13, none⟩))
set_option maxRecDepth 100000 in
set_option maxHeartbeats 8000000 in
theorem walk (q : Pl.P) (a0 : Option Addr) (cap : Nat) (t : Int) (sf sg : Int) (w : World) (L : LayM w) (hx : q.x.Bd) (_ : PWf q) (hI : Bo.InS w (.slice a0 q.l.length cap) q.l) (_ : (Lit.int .i64 t).wf = true) (_ : (Lit.int .i64 sf).wf = true) (_ : (Lit.int .i64 sg).wf = true) :
    Calls Tryz.prog 8 #[.agg #[.int .i64 q.k, .int .u64 q.x.a0, .int .u64 q.x.a1, .int .u64 q.x.a2, .int .u64 q.x.a3, .int .u64 q.x.a4, .int .u64 q.x.a5, .bool q.x.b3, .bool q.x.b5, .int .i64 q.z, .int .i64 q.s, .int .i64 q.p, .int .i64 q.c, (.slice a0 q.l.length cap)], .int .i64 t, .agg #[.int .i64 sf, .int .i64 sg]] w fun e w' => e = .returned (.bool true) ∧ Below w.heap.size w w' := by
  obtain ⟨b0, r1, r2⟩ := new2 w (plL q (.slice a0 q.l.length cap)) [.int .i64 sf, .int .i64 sg] 29 48
  have B0 := Lib.hid b0
  have LB := Lib.hid (L.below b0)
  have R1 := Lib.hid r1
  have R2 := Lib.hid r2
  have WK := Lib.hid (fun W L => works_any W L)
  by_cases big : 63 < q.l.length
  · have t0 : decide ((63 : Int) < (q.l.length : Int)) = true := by rw [decide_eq_true_iff]; omega
    simp only [plL] at B0 LB R1 R2
    clear hI big L b0 r1 r2
    go_enter Tryz.func8, Tryz.ntmps8
    go_wp2_with fail
    refine (WK.out _ LB.out).mono ?_
    rintro e w9 ⟨rfl, hb9⟩
    have QW := Lib.hid (B0.out.trans (hb9.mono (by simp; omega)))
    clear hb9
    go_wp2_with fail
    go_ret
    exact ⟨rfl, QW.out⟩
  have t0 : decide ((63 : Int) < (q.l.length : Int)) = false := by rw [decide_eq_false_iff_not]; omega
  have hI' := hI.2.2 (show q.l.length ≤ 1000000 by omega)
  have S0 : Hid (SK w q (.slice a0 q.l.length cap) sf sg ((w.alloc (.cells #[.int .i64 q.k, .int .u64 q.x.a0, .int .u64 q.x.a1, .int .u64 q.x.a2, .int .u64 q.x.a3, .int .u64 q.x.a4, .int .u64 q.x.a5, .bool q.x.b3, .bool q.x.b5, .int .i64 q.z, .int .i64 q.s, .int .i64 q.p, .int .i64 q.c, (.slice a0 q.l.length cap)] 29)).alloc (.cells #[.int .i64 sf, .int .i64 sg] 48))) := Lib.hid ⟨b0, L.below b0, r1, r2, hI'.below (b0.mono (Nat.le_refl _))⟩
  have LN := Lib.hid big
  have LL := Lib.hid L
  have HI := Lib.hid hI'
  clear hI hI' L b0 r1 r2 big B0 LB R1 R2
  obtain ⟨er, he⟩ : ∃ er, q.err = er := ⟨_, rfl⟩
  have K1 := Lib.hid (fun W (h : SK w q (.slice a0 q.l.length cap) sf sg W) => pchk_any q hx (.slice a0 q.l.length cap) er he W h.lay h.sp)
  by_cases e0 : er = 0
  case neg =>
    have t1 : (er != 0) = true := by rw [bne_iff_ne]; exact e0
    clear he hx e0
    obtain ⟨c0, c1, c2, c3, c4, c5, c6, c7, c8, c9, c10, c11, c12, c13⟩ := S0.out.c1
    go_enter Tryz.func8, Tryz.ntmps8
    go_wp2_with fail
    refine (K1.out _ S0.out).mono ?_
    rintro e w1 ⟨rfl, hb1⟩
    have S1 := Lib.hid (S0.out.next hb1)
    clear hb1 c0 c1 c2 c3 c4 c5 c6 c7 c8 c9 c10 c11 c12 c13
    obtain ⟨c0, c1, c2, c3, c4, c5, c6, c7, c8, c9, c10, c11, c12, c13⟩ := S1.out.c1
    go_wp2_with fail
    refine (WK.out _ S1.out.lay).mono ?_
    rintro e w9 ⟨rfl, hb9⟩
    have QW := Lib.hid (S1.out.next hb9)
    clear hb9
    go_wp2_with fail
    go_ret
    exact ⟨rfl, QW.out.below⟩
  subst e0
  have OK := Lib.hid (Pl.P.err_ok.1 he)
  by_cases k0 : q.k = 0
  · have t1 : (q.k == 0) = true := by rw [beq_iff_eq]; exact k0
    clear he hx k0
    obtain ⟨c0, c1, c2, c3, c4, c5, c6, c7, c8, c9, c10, c11, c12, c13⟩ := S0.out.c1
    go_enter Tryz.func8, Tryz.ntmps8
    go_wp2_with fail
    refine (K1.out _ S0.out).mono ?_
    rintro e w1 ⟨rfl, hb1⟩
    have S1 := Lib.hid (S0.out.next hb1)
    clear hb1 c0 c1 c2 c3 c4 c5 c6 c7 c8 c9 c10 c11 c12 c13
    obtain ⟨c0, c1, c2, c3, c4, c5, c6, c7, c8, c9, c10, c11, c12, c13⟩ := S1.out.c1
    go_wp2_with fail
    refine (WK.out _ S1.out.lay).mono ?_
    rintro e w9 ⟨rfl, hb9⟩
    have QW := Lib.hid (S1.out.next hb9)
    clear hb9
    go_wp2_with fail
    go_ret
    exact ⟨rfl, QW.out.below⟩
  have t1 : (q.k == 0) = false := by rw [beq_eq_false_iff_ne]; exact k0
  obtain ⟨a, b, n, r, hr, i1, i2, i3, i4, hab, hv, hK, hK2⟩ := Pl.three OK.out t
  have I1 := Lib.hid (fun W (h : SK w q (.slice a0 q.l.length cap) sf sg W) => pis_any q hx (.slice a0 q.l.length cap) t a r i1 W h.lay h.sp)
  have I2 := Lib.hid (fun W (h : SK w q (.slice a0 q.l.length cap) sf sg W) => (show Calls Tryz.prog 15 #[.agg #[.int .i64 q.k, .int .u64 q.x.a0, .int .u64 q.x.a1, .int .u64 q.x.a2, .int .u64 q.x.a3, .int .u64 q.x.a4, .int .u64 q.x.a5, .bool q.x.b3, .bool q.x.b5, .int .i64 q.z, .int .i64 q.s, .int .i64 q.p, .int .i64 q.c, (.slice none 0 0)], .int .i64 t] W fun e w' => e = .returned (.tuple #[.bool b, .int .i64 r]) ∧ Below W.heap.size W w' from pis_any q.free hx (.slice none 0 0) t b r i2 W h.lay (Bo.RowS.nil W)))
  have IN := Lib.hid (fun W (h : SK w q (.slice a0 q.l.length cap) sf sg W) => Bo.in_any (.slice a0 q.l.length cap) q.l t n r i3 i4 W h.sp)
  have HV := Lib.hid hv
  have HK := Lib.hid hK
  have HK2 := Lib.hid hK2
  have HR := Lib.hid hr
  have HAB := Lib.hid hab
  have K0 := Lib.hid k0
  have HX := Lib.hid hx
  clear he hx i1 i2 i3 i4 hab hv hK hK2 hr k0
  obtain ⟨c0, c1, c2, c3, c4, c5, c6, c7, c8, c9, c10, c11, c12, c13⟩ := S0.out.c1
  go_enter Tryz.func8, Tryz.ntmps8
  go_wp2_with fail
  refine (K1.out _ S0.out).mono ?_
  rintro e w1 ⟨rfl, hb1⟩
  have S1 := Lib.hid (S0.out.next hb1)
  clear hb1 c0 c1 c2 c3 c4 c5 c6 c7 c8 c9 c10 c11 c12 c13
  obtain ⟨c0, c1, c2, c3, c4, c5, c6, c7, c8, c9, c10, c11, c12, c13⟩ := S1.out.c1
  have S2 := Lib.hid (S1.out.alloc (.cells #[.int .i64 q.k, .int .u64 q.x.a0, .int .u64 q.x.a1, .int .u64 q.x.a2, .int .u64 q.x.a3, .int .u64 q.x.a4, .int .u64 q.x.a5, .bool q.x.b3, .bool q.x.b5, .int .i64 q.z, .int .i64 q.s, .int .i64 q.p, .int .i64 q.c, (.slice none 0 0)] 29))
  have RF := Lib.hid (Row.new w1 (plL q (.slice none 0 0)) 29)
  obtain ⟨x0, x1, x2, x3, x4, x5, x6, x7, x8, x9, x10, x11, x12, x13⟩ := S2.out.c1
  go_wp2_with fail
  refine (I1.out _ S2.out).mono ?_
  rintro e w2 ⟨rfl, hb2⟩
  have S3 := Lib.hid (S2.out.next hb2)
  have RF2 := Lib.hid (RF.out.below hb2)
  clear hb2 c0 c1 c2 c3 c4 c5 c6 c7 c8 c9 c10 c11 c12 c13 x0 x1 x2 x3 x4 x5 x6 x7 x8 x9 x10 x11 x12 x13
  obtain ⟨d0, d1, d2, d3, d4, d5, d6, d7, d8, d9, d10, d11, d12, d13⟩ := cells14 RF2.out
  go_wp2_with fail
  refine (I2.out _ S3.out).mono ?_
  rintro e w3 ⟨rfl, hb3⟩
  have S4 := Lib.hid (S3.out.next hb3)
  clear hb3 d0 d1 d2 d3 d4 d5 d6 d7 d8 d9 d10 d11 d12 d13
  obtain ⟨c0, c1, c2, c3, c4, c5, c6, c7, c8, c9, c10, c11, c12, c13⟩ := S4.out.c1
  go_wp2_with fail
  refine (IN.out _ S4.out).mono ?_
  rintro e w4 ⟨rfl, hb4⟩
  have S5 := Lib.hid (S4.out.next hb4)
  clear hb4 c0 c1 c2 c3 c4 c5 c6 c7 c8 c9 c10 c11 c12 c13 S1 S2 S3 S4 RF RF2 S0
  obtain ⟨c0, c1, c2, c3, c4, c5, c6, c7, c8, c9, c10, c11, c12, c13⟩ := S5.out.c1
  have hr := HR.out
  rcases hr with rfl | rfl
  case inr =>
    go_wp2_with fail
    refine (WK.out _ S5.out.lay).mono ?_
    rintro e w9 ⟨rfl, hb9⟩
    have QW := Lib.hid (S5.out.next hb9)
    clear hb9
    go_wp2_with fail
    go_ret
    exact ⟨rfl, QW.out.below⟩
  have hab := HAB.out rfl
  subst hab
  have MR := Lib.hid (Pl.moreR OK.out K0.out (by have := LN.out; omega) sf sg t (HV.out rfl) (a := (b && !n)) ⟨fun k => HK.out k, fun k => HK2.out rfl k⟩)
  obtain ⟨er1, he1⟩ : ∃ er1, (q.more sf sg).err = er1 := ⟨_, rfl⟩
  have KM := Lib.hid (fun W u (h : SK w q (.slice a0 q.l.length cap) sf sg W) (hu : Bo.RowS W u (mL q sf sg)) => (show Calls Tryz.prog 19 #[.agg #[.int .i64 q.k, .int .u64 q.x.a0, .int .u64 q.x.a1, .int .u64 q.x.a2, .int .u64 q.x.a3, .int .u64 q.x.a4, .int .u64 q.x.a5, .bool q.x.b3, .bool q.x.b5, .int .i64 q.z, .int .i64 q.s, .int .i64 q.p, .int .i64 q.c, u]] W fun e w' => e = .returned (.int .i64 er1) ∧ Below W.heap.size W w' from pchk_any (q.more sf sg) HX.out u er1 he1 W h.lay hu))
  have HE1 := Lib.hid he1
  clear he1 HAB HK HK2 HR HV I1 I2 IN K1
  have S6 := Lib.hid (S5.out.alloc (.cells #[.int .i64 q.k, .int .u64 q.x.a0, .int .u64 q.x.a1, .int .u64 q.x.a2, .int .u64 q.x.a3, .int .u64 q.x.a4, .int .u64 q.x.a5, .bool q.x.b3, .bool q.x.b5, .int .i64 q.z, .int .i64 q.s, .int .i64 q.p, .int .i64 q.c, (.slice a0 q.l.length cap)] 29))
  have RW0 := Lib.hid (Row.new w4 (plL q (.slice a0 q.l.length cap)) 29)
  have BM := Lib.hid (show w.heap.size + 2 ≤ w4.heap.size from by have := S5.out.r2.lt; omega)
  cases b with
  | false =>
    go_wp2_with fail
    obtain ⟨W0, hW0⟩ : ∃ W0, w4.alloc (.cells #[.int .i64 q.k, .int .u64 q.x.a0, .int .u64 q.x.a1, .int .u64 q.x.a2, .int .u64 q.x.a3, .int .u64 q.x.a4, .int .u64 q.x.a5, .bool q.x.b3, .bool q.x.b5, .int .i64 q.z, .int .i64 q.s, .int .i64 q.p, .int .i64 q.c, (.slice a0 q.l.length cap)] 29) = W0 := ⟨_, rfl⟩
    have SZ : Hid (W0.heap.size = w4.heap.size + 1) := Lib.hid (by rw [← hW0]; simp)
    have s6 := S6.out
    have rw0 := RW0.out
    simp only [plL] at rw0
    rw [hW0] at s6 rw0
    simp only [hW0]
    have S7 := Lib.hid s6
    have RW1 : Hid (Row W0 w4.heap.size 29 (plL q (.slice a0 q.l.length cap))) := Lib.hid rw0
    clear hW0 s6 rw0 S6 RW0 S5 c0 c1 c2 c3 c4 c5 c6 c7 c8 c9 c10 c11 c12 c13
    apply wp_region_inv (SI w q (.slice a0 q.l.length cap) sf sg W0 w4.heap.size _ _ _ _ _ _ _ _ _ _ _ _ _ _ _ _ _ _ _ _ _ _ _ _ _ _ _ _ _ _ _ _ _ _ _ _ _ _ _ _ _ _ _ _ _ _ _ _ _ _ _ _ _ _ _ _ _ _ _ _ _ _ _ _ _ _ _ _ _ _ _ _ _ _ _ _ _ _ _ _ _ _ _ _ _ _ _ _ _ _ _ _ _ _ _ _ _ _ _ _ _ _ _ _ _ _ _ _ _ _ _ _ _ _ _ _ _ _ _ _ _ _ _ _ _ _) (by kernel_rfl)
    case h0 => exact ⟨_, _, _, _, _, _, _, _, rfl, ⟨fun _ => (Below.refl _ W0).drew, fun k => absurd k (by decide)⟩, (fun h => by cases h), (fun h => by cases h), (fun h => by cases h), (fun h => by cases h), (fun h => by cases h), (fun h => by cases h), (fun h => by cases h), (fun h => by cases h)⟩
    case htopo => kernel_rfl
    case hstep =>
      intro i o g c W ho hI hg hdep K' hK
      obtain ⟨v77, v78, v79, v80, v81, v82, v83, v84, rfl, hM, q0, q1, q2, q3, q4, q5, q6, q7⟩ := hI
      have hi : i < 9 := (Array.getElem?_eq_some_iff.1 ho).1
      rcases (show i = 0 ∨ i = 1 ∨ i = 2 ∨ i = 3 ∨ i = 4 ∨ i = 5 ∨ i = 6 ∨ i = 7 ∨ i = 8 by omega) with rfl | rfl | rfl | rfl | rfl | rfl | rfl | rfl | rfl
      · simp only [List.getElem?_toArray, List.getElem?_cons_zero, Option.some.injEq] at ho
        subst ho
        clear hdep
        have h8 := hM.no8 (by omega) hg
        have hB := hM.1 h8
        go_simp
        exact hK.out _ _ ⟨_, _, _, _, _, _, _, _, rfl, (hM.step (by omega) hg (fun h => h.alloc h.size _)), fun _ _ => World.ownsRow_made W #[] 0 hB.size (by simp [maxLen]) (by simp), q1, q2, (fun h k => (q3 h k).alloc _), q4, (fun h k => by obtain ⟨b, e, r, _⟩ := q5 h k; exact ⟨b, e, r.alloc _, fun _ z => by have := r.lt; simp [Value.ownBlock] at z; omega⟩), (fun h k => ⟨(q6 h k).1, (q6 h k).2.alloc _⟩), q7⟩
      · simp only [List.getElem?_toArray, List.getElem?_cons_zero, List.getElem?_cons_succ, Option.some.injEq] at ho
        subst ho
        clear hdep
        have h8 := hM.no8 (by omega) hg
        have hB := hM.1 h8
        go_simp
        exact hK.out _ _ ⟨_, _, _, _, _, _, _, _, rfl, (hM.step (by omega) hg (fun h => h)), q0, fun _ => rfl, q2, q3, q4, q5, q6, q7⟩
      · simp only [List.getElem?_toArray, List.getElem?_cons_zero, List.getElem?_cons_succ, Option.some.injEq] at ho
        subst ho
        have r1 := q1 (hdep ⟨1, .data⟩ (by simp) rfl)
        subst r1
        clear hdep
        have h8 := hM.no8 (by omega) hg
        have hB := hM.1 h8
        have u2 : W.cell? ⟨w.heap.size, 13, none⟩ = some (.slice a0 q.l.length cap) := ((S7.out.r1.below hB).cell 13)
        go_simp
        exact hK.out _ _ ⟨_, _, _, _, _, _, _, _, rfl, (hM.step (by omega) hg (fun h => h)), q0, q1, fun _ => rfl, q3, q4, q5, q6, q7⟩
      · simp only [List.getElem?_toArray, List.getElem?_cons_zero, List.getElem?_cons_succ, Option.some.injEq] at ho
        subst ho
        have r0 := q0 (hdep ⟨0, .data⟩ (by simp) rfl)
        have G0 : g 0 = true := hdep ⟨0, .data⟩ (by simp) rfl
        have r2 := q2 (hdep ⟨2, .data⟩ (by simp) rfl)
        subst r2
        clear hdep
        have h8 := hM.no8 (by omega) hg
        have hB := hM.1 h8
        refine step_append_rowS rfl (.tmp 77) (.tmp 79) rfl W0.heap.size _ 0 [] rfl (r0 hg) _ q.l rfl (S7.out.sp.below hB) (by have := LN.out; omega) hB.size ?_
        intro v' w' hown hgr
        simp only [List.nil_append, Nat.zero_add] at hown
        have hB' := grow_below hB hgr (r0 hg) (Nat.le_refl _)
        exact hK.out _ _ ⟨_, _, _, _, _, _, _, _, rfl, (hM.step (by omega) hg (fun _ => hB')), (fun h k => absurd k (by simp)), q1, q2, fun _ _ => hown, q4, (fun h k => by obtain ⟨b, e, r, z⟩ := q5 h k; exact ⟨b, e, (hgr.block b r.lt (fun y => z ⟨G0, hg⟩ y.symm)).trans r, fun y => absurd y.2 (by simp)⟩), (fun h k => absurd (q6 h k).1 (by rw [hg]; simp)), q7⟩
      · simp only [List.getElem?_toArray, List.getElem?_cons_zero, List.getElem?_cons_succ, Option.some.injEq] at ho
        subst ho
        clear hdep
        have h8 := hM.no8 (by omega) hg
        have hB := hM.1 h8
        have u40 : W.cell? ⟨w.heap.size + 1, 0, none⟩ = some (.int .i64 sf) := ((S7.out.r2.below hB).cell 0)
        have u41 : W.cell? ⟨w.heap.size + 1, 1, none⟩ = some (.int .i64 sg) := ((S7.out.r2.below hB).cell 1)
        go_simp
        exact hK.out _ _ ⟨_, _, _, _, _, _, _, _, rfl, (hM.step (by omega) hg (fun h => h)), q0, q1, q2, q3, fun _ => rfl, q5, q6, q7⟩
      · simp only [List.getElem?_toArray, List.getElem?_cons_zero, List.getElem?_cons_succ, Option.some.injEq] at ho
        subst ho
        have r4 := q4 (hdep ⟨4, .data⟩ (by simp) rfl)
        subst r4
        clear hdep
        have h8 := hM.no8 (by omega) hg
        have hB := hM.1 h8
        go_simp
        exact hK.out _ _ ⟨_, _, _, _, _, _, _, _, rfl, (hM.step (by omega) hg (fun h => h.alloc h.size _)), (fun h k => (q0 h k).alloc _), q1, q2, (fun h k => (q3 h k).alloc _), q4, fun _ _ => ⟨_, rfl, Row.new W [.int .i64 sf, .int .i64 sg] _, fun p z => by have := (q0 p.1 p.2).lt _ z; omega⟩, (fun h k => ⟨(q6 h k).1, (q6 h k).2.alloc _⟩), q7⟩
      · simp only [List.getElem?_toArray, List.getElem?_cons_zero, List.getElem?_cons_succ, Option.some.injEq] at ho
        subst ho
        have r3 := q3 (hdep ⟨3, .data⟩ (by simp) rfl)
        have G3 : g 3 = true := hdep ⟨3, .data⟩ (by simp) rfl
        have r5 := q5 (hdep ⟨5, .data⟩ (by simp) rfl)
        skip
        clear hdep
        have h8 := hM.no8 (by omega) hg
        have hB := hM.1 h8
        have hr5 := (r5 hg).rowS
        refine step_append_rowS rfl (.tmp 80) (.tmp 82) rfl W0.heap.size _ _ _ rfl (r3 hg) _ [(sf, sg)] rfl hr5 (by have := LN.out; simp; omega) hB.size ?_
        intro v' w' hown hgr
        have hown' : w'.ownsRow W0.heap.size 48 2 v' (mL q sf sg).length ((mL q sf sg).flatMap Bo.encS) := by simpa [mL] using hown
        have hB' := grow_below hB hgr (r3 hg) (Nat.le_refl _)
        exact hK.out _ _ ⟨_, _, _, _, _, _, _, _, rfl, (hM.step (by omega) hg (fun _ => hB')), (fun h k => absurd G3 (by rw [show g 3 = false from k]; simp)), q1, q2, (fun h k => absurd k (by simp)), q4, (fun h k => absurd k (by simp)), fun _ _ => ⟨G3, hown'⟩, q7⟩
      · simp only [List.getElem?_toArray, List.getElem?_cons_zero, List.getElem?_cons_succ, Option.some.injEq] at ho
        subst ho
        clear hdep
        have h8 := hM.no8 (by omega) hg
        have hB := hM.1 h8
        go_simp
        exact hK.out _ _ ⟨_, _, _, _, _, _, _, _, rfl, (hM.step (by omega) hg (fun h => h)), q0, q1, q2, q3, q4, q5, q6, fun _ => rfl⟩
      · simp only [List.getElem?_toArray, List.getElem?_cons_zero, List.getElem?_cons_succ, Option.some.injEq] at ho
        subst ho
        have r6 := q6 (hdep ⟨6, .data⟩ (by simp) rfl)
        have GA : ∀ j, j < 8 → g j = true := by
          intro j hj
          rcases (show j = 0 ∨ j = 1 ∨ j = 2 ∨ j = 3 ∨ j = 4 ∨ j = 5 ∨ j = 6 ∨ j = 7 by omega) with rfl | rfl | rfl | rfl | rfl | rfl | rfl | rfl
          · exact hdep ⟨0, .phase⟩ (by simp) rfl
          · exact hdep ⟨1, .phase⟩ (by simp) rfl
          · exact hdep ⟨2, .phase⟩ (by simp) rfl
          · exact hdep ⟨3, .phase⟩ (by simp) rfl
          · exact hdep ⟨4, .phase⟩ (by simp) rfl
          · exact hdep ⟨5, .phase⟩ (by simp) rfl
          · exact hdep ⟨6, .data⟩ (by simp) rfl
          · exact hdep ⟨7, .data⟩ (by simp) rfl
        have r7 := q7 (hdep ⟨7, .data⟩ (by simp) rfl)
        subst r7
        clear hdep
        have hB := hM.1 hg
        have RM := RW1.out.below hB
        have u8 : W.cell? ⟨w4.heap.size, 13, none⟩ = some (.slice a0 q.l.length cap) := RM.cell 13
        have uf : W.frozen? ⟨w4.heap.size, 13, none⟩ = false := RM.free 13
        obtain ⟨Ua, Uc, rfl⟩ : ∃ A c, v83 = .slice A (mL q sf sg).length c := by
          rcases (r6 hg).2.2 with ⟨e, e0⟩ | ⟨b, cp, cur, e, _⟩
          · exact ⟨none, 0, by rw [e, e0]⟩
          · exact ⟨_, _, e⟩
        go_simp
        exact hK.out _ _ ⟨_, _, _, _, _, _, _, _, rfl, MI.last GA hB (r6 hg).2, (fun h k => absurd (GA 3 (by omega)) (by rw [show g 3 = false from k]; simp)), (fun _ => rfl), (fun _ => rfl), (fun h k => absurd (GA 6 (by omega)) (by rw [show g 6 = false from k]; simp)), (fun _ => rfl), (fun h k => absurd (GA 6 (by omega)) (by rw [show g 6 = false from k]; simp)), (fun h k => absurd k (by simp)), q7⟩
    case hend =>
      intro g c W hI hall
      obtain ⟨v77, v78, v79, v80, v81, v82, v83, v84, rfl, hM, q0, q1, q2, q3, q4, q5, q6, q7⟩ := hI
      have r0 := q0 (hall 0 (by decide))
      skip
      have r1 := q1 (hall 1 (by decide))
      subst r1
      have r2 := q2 (hall 2 (by decide))
      subst r2
      have r3 := q3 (hall 3 (by decide))
      skip
      have r4 := q4 (hall 4 (by decide))
      subst r4
      have r5 := q5 (hall 5 (by decide))
      skip
      have r6 := q6 (hall 6 (by decide))
      skip
      have r7 := q7 (hall 7 (by decide))
      subst r7
      clear q0 q1 q2 q3 q4 q5 q6 q7
      have sd := (hM.2 (hall 8 (by decide))).2
      obtain ⟨Ua, Uc, k7, rm, ru⟩ := SD.out sd LL.out BM.out (by have := SZ.out; omega) S7.out RW1.out HI.out (by have := LN.out; omega)
      have S8 := Lib.hid k7
      have RM := Lib.hid rm
      have RU := Lib.hid ru
      clear sd k7 rm ru hM hall r0 r3 r5 r6 S7 RW1 SZ
      obtain ⟨d0, d1, d2, d3, d4, d5, d6, d7, d8, d9, d10, d11, d12, d13⟩ := cells14 RM.out
      go_wp2_with fail
      refine (KM.out _ _ S8.out RU.out).mono ?_
      rintro e w8 ⟨rfl, hb8⟩
      have S9 := Lib.hid (S8.out.next hb8)
      have RM9 := Lib.hid (RM.out.below hb8)
      have RU9 := Lib.hid (RU.out.below hb8)
      clear hb8 d0 d1 d2 d3 d4 d5 d6 d7 d8 d9 d10 d11 d12 d13 S8 RM RU
      obtain ⟨g0, g1⟩ := S9.out.c2
      rcases MR.out with ⟨e1, hbad⟩ | ⟨e1, his⟩
      · obtain rfl : er1 = 16 := HE1.out.symm.trans e1
        clear e1 MR
        by_cases x1 : sf < 0
        · have t1 : decide (sf < 0) = true := decide_eq_true x1
          clear x1 hbad
          go_wp2_with fail
          refine (WK.out _ S9.out.lay).mono ?_
          rintro e w9 ⟨rfl, hb9⟩
          have QW := Lib.hid (S9.out.next hb9)
          clear hb9
          go_wp2_with fail
          go_ret
          exact ⟨rfl, QW.out.below⟩
        have t1 : decide (sf < 0) = false := decide_eq_false x1
        by_cases x2 : 253402300799 < sg
        · have t2 : decide (253402300799 < sg) = true := decide_eq_true x2
          clear x1 x2 hbad
          go_wp2_with fail
          refine (WK.out _ S9.out.lay).mono ?_
          rintro e w9 ⟨rfl, hb9⟩
          have QW := Lib.hid (S9.out.next hb9)
          clear hb9
          go_wp2_with fail
          go_ret
          exact ⟨rfl, QW.out.below⟩
        have t2 : decide (253402300799 < sg) = false := decide_eq_false x2
        have t3 : decide (sg < sf) = true := decide_eq_true (by omega)
        clear x1 x2 hbad
        go_wp2_with fail
        refine (WK.out _ S9.out.lay).mono ?_
        rintro e w9 ⟨rfl, hb9⟩
        have QW := Lib.hid (S9.out.next hb9)
        clear hb9
        go_wp2_with fail
        go_ret
        exact ⟨rfl, QW.out.below⟩
      · obtain rfl : er1 = 0 := HE1.out.symm.trans e1
        have I3 := Lib.hid (fun W u (h : SK w q (.slice a0 q.l.length cap) sf sg W) (hu : Bo.RowS W u (mL q sf sg)) => (show Calls Tryz.prog 15 #[.agg #[.int .i64 q.k, .int .u64 q.x.a0, .int .u64 q.x.a1, .int .u64 q.x.a2, .int .u64 q.x.a3, .int .u64 q.x.a4, .int .u64 q.x.a5, .bool q.x.b3, .bool q.x.b5, .int .i64 q.z, .int .i64 q.s, .int .i64 q.p, .int .i64 q.c, u], .int .i64 t] W fun e w' => e = .returned (.tuple #[.bool ((false && !n) && (decide (t < sf) || decide (sg < t))), .int .i64 0]) ∧ Below W.heap.size W w' from pis_any (q.more sf sg) HX.out u t _ 0 his W h.lay hu))
        clear e1 his MR
        obtain ⟨d0, d1, d2, d3, d4, d5, d6, d7, d8, d9, d10, d11, d12, d13⟩ := cells14 RM9.out
        go_wp2_with fail
        refine (I3.out _ _ S9.out RU9.out).mono ?_
        rintro e w10 ⟨rfl, hb10⟩
        have SA := Lib.hid (S9.out.next hb10)
        clear hb10 d0 d1 d2 d3 d4 d5 d6 d7 d8 d9 d10 d11 d12 d13 g0 g1
        obtain ⟨g0, g1⟩ := SA.out.c2
        go_wp2_with fail
        refine (WK.out _ SA.out.lay).mono ?_
        rintro e w9 ⟨rfl, hb9⟩
        have QW := Lib.hid (SA.out.next hb9)
        clear hb9
        go_wp2_with fail
        go_ret
        exact ⟨rfl, QW.out.below⟩
  | true =>
    cases n with
    | true =>
      go_wp2_with fail
      obtain ⟨W0, hW0⟩ : ∃ W0, w4.alloc (.cells #[.int .i64 q.k, .int .u64 q.x.a0, .int .u64 q.x.a1, .int .u64 q.x.a2, .int .u64 q.x.a3, .int .u64 q.x.a4, .int .u64 q.x.a5, .bool q.x.b3, .bool q.x.b5, .int .i64 q.z, .int .i64 q.s, .int .i64 q.p, .int .i64 q.c, (.slice a0 q.l.length cap)] 29) = W0 := ⟨_, rfl⟩
      have SZ : Hid (W0.heap.size = w4.heap.size + 1) := Lib.hid (by rw [← hW0]; simp)
      have s6 := S6.out
      have rw0 := RW0.out
      simp only [plL] at rw0
      rw [hW0] at s6 rw0
      simp only [hW0]
      have S7 := Lib.hid s6
      have RW1 : Hid (Row W0 w4.heap.size 29 (plL q (.slice a0 q.l.length cap))) := Lib.hid rw0
      clear hW0 s6 rw0 S6 RW0 S5 c0 c1 c2 c3 c4 c5 c6 c7 c8 c9 c10 c11 c12 c13
      apply wp_region_inv (SI w q (.slice a0 q.l.length cap) sf sg W0 w4.heap.size _ _ _ _ _ _ _ _ _ _ _ _ _ _ _ _ _ _ _ _ _ _ _ _ _ _ _ _ _ _ _ _ _ _ _ _ _ _ _ _ _ _ _ _ _ _ _ _ _ _ _ _ _ _ _ _ _ _ _ _ _ _ _ _ _ _ _ _ _ _ _ _ _ _ _ _ _ _ _ _ _ _ _ _ _ _ _ _ _ _ _ _ _ _ _ _ _ _ _ _ _ _ _ _ _ _ _ _ _ _ _ _ _ _ _ _ _ _ _ _ _ _ _ _ _ _) (by kernel_rfl)
      case h0 => exact ⟨_, _, _, _, _, _, _, _, rfl, ⟨fun _ => (Below.refl _ W0).drew, fun k => absurd k (by decide)⟩, (fun h => by cases h), (fun h => by cases h), (fun h => by cases h), (fun h => by cases h), (fun h => by cases h), (fun h => by cases h), (fun h => by cases h), (fun h => by cases h)⟩
      case htopo => kernel_rfl
      case hstep =>
        intro i o g c W ho hI hg hdep K' hK
        obtain ⟨v77, v78, v79, v80, v81, v82, v83, v84, rfl, hM, q0, q1, q2, q3, q4, q5, q6, q7⟩ := hI
        have hi : i < 9 := (Array.getElem?_eq_some_iff.1 ho).1
        rcases (show i = 0 ∨ i = 1 ∨ i = 2 ∨ i = 3 ∨ i = 4 ∨ i = 5 ∨ i = 6 ∨ i = 7 ∨ i = 8 by omega) with rfl | rfl | rfl | rfl | rfl | rfl | rfl | rfl | rfl
        · simp only [List.getElem?_toArray, List.getElem?_cons_zero, Option.some.injEq] at ho
          subst ho
          clear hdep
          have h8 := hM.no8 (by omega) hg
          have hB := hM.1 h8
          go_simp
          exact hK.out _ _ ⟨_, _, _, _, _, _, _, _, rfl, (hM.step (by omega) hg (fun h => h.alloc h.size _)), fun _ _ => World.ownsRow_made W #[] 0 hB.size (by simp [maxLen]) (by simp), q1, q2, (fun h k => (q3 h k).alloc _), q4, (fun h k => by obtain ⟨b, e, r, _⟩ := q5 h k; exact ⟨b, e, r.alloc _, fun _ z => by have := r.lt; simp [Value.ownBlock] at z; omega⟩), (fun h k => ⟨(q6 h k).1, (q6 h k).2.alloc _⟩), q7⟩
        · simp only [List.getElem?_toArray, List.getElem?_cons_zero, List.getElem?_cons_succ, Option.some.injEq] at ho
          subst ho
          clear hdep
          have h8 := hM.no8 (by omega) hg
          have hB := hM.1 h8
          go_simp
          exact hK.out _ _ ⟨_, _, _, _, _, _, _, _, rfl, (hM.step (by omega) hg (fun h => h)), q0, fun _ => rfl, q2, q3, q4, q5, q6, q7⟩
        · simp only [List.getElem?_toArray, List.getElem?_cons_zero, List.getElem?_cons_succ, Option.some.injEq] at ho
          subst ho
          have r1 := q1 (hdep ⟨1, .data⟩ (by simp) rfl)
          subst r1
          clear hdep
          have h8 := hM.no8 (by omega) hg
          have hB := hM.1 h8
          have u2 : W.cell? ⟨w.heap.size, 13, none⟩ = some (.slice a0 q.l.length cap) := ((S7.out.r1.below hB).cell 13)
          go_simp
          exact hK.out _ _ ⟨_, _, _, _, _, _, _, _, rfl, (hM.step (by omega) hg (fun h => h)), q0, q1, fun _ => rfl, q3, q4, q5, q6, q7⟩
        · simp only [List.getElem?_toArray, List.getElem?_cons_zero, List.getElem?_cons_succ, Option.some.injEq] at ho
          subst ho
          have r0 := q0 (hdep ⟨0, .data⟩ (by simp) rfl)
          have G0 : g 0 = true := hdep ⟨0, .data⟩ (by simp) rfl
          have r2 := q2 (hdep ⟨2, .data⟩ (by simp) rfl)
          subst r2
          clear hdep
          have h8 := hM.no8 (by omega) hg
          have hB := hM.1 h8
          refine step_append_rowS rfl (.tmp 77) (.tmp 79) rfl W0.heap.size _ 0 [] rfl (r0 hg) _ q.l rfl (S7.out.sp.below hB) (by have := LN.out; omega) hB.size ?_
          intro v' w' hown hgr
          simp only [List.nil_append, Nat.zero_add] at hown
          have hB' := grow_below hB hgr (r0 hg) (Nat.le_refl _)
          exact hK.out _ _ ⟨_, _, _, _, _, _, _, _, rfl, (hM.step (by omega) hg (fun _ => hB')), (fun h k => absurd k (by simp)), q1, q2, fun _ _ => hown, q4, (fun h k => by obtain ⟨b, e, r, z⟩ := q5 h k; exact ⟨b, e, (hgr.block b r.lt (fun y => z ⟨G0, hg⟩ y.symm)).trans r, fun y => absurd y.2 (by simp)⟩), (fun h k => absurd (q6 h k).1 (by rw [hg]; simp)), q7⟩
        · simp only [List.getElem?_toArray, List.getElem?_cons_zero, List.getElem?_cons_succ, Option.some.injEq] at ho
          subst ho
          clear hdep
          have h8 := hM.no8 (by omega) hg
          have hB := hM.1 h8
          have u40 : W.cell? ⟨w.heap.size + 1, 0, none⟩ = some (.int .i64 sf) := ((S7.out.r2.below hB).cell 0)
          have u41 : W.cell? ⟨w.heap.size + 1, 1, none⟩ = some (.int .i64 sg) := ((S7.out.r2.below hB).cell 1)
          go_simp
          exact hK.out _ _ ⟨_, _, _, _, _, _, _, _, rfl, (hM.step (by omega) hg (fun h => h)), q0, q1, q2, q3, fun _ => rfl, q5, q6, q7⟩
        · simp only [List.getElem?_toArray, List.getElem?_cons_zero, List.getElem?_cons_succ, Option.some.injEq] at ho
          subst ho
          have r4 := q4 (hdep ⟨4, .data⟩ (by simp) rfl)
          subst r4
          clear hdep
          have h8 := hM.no8 (by omega) hg
          have hB := hM.1 h8
          go_simp
          exact hK.out _ _ ⟨_, _, _, _, _, _, _, _, rfl, (hM.step (by omega) hg (fun h => h.alloc h.size _)), (fun h k => (q0 h k).alloc _), q1, q2, (fun h k => (q3 h k).alloc _), q4, fun _ _ => ⟨_, rfl, Row.new W [.int .i64 sf, .int .i64 sg] _, fun p z => by have := (q0 p.1 p.2).lt _ z; omega⟩, (fun h k => ⟨(q6 h k).1, (q6 h k).2.alloc _⟩), q7⟩
        · simp only [List.getElem?_toArray, List.getElem?_cons_zero, List.getElem?_cons_succ, Option.some.injEq] at ho
          subst ho
          have r3 := q3 (hdep ⟨3, .data⟩ (by simp) rfl)
          have G3 : g 3 = true := hdep ⟨3, .data⟩ (by simp) rfl
          have r5 := q5 (hdep ⟨5, .data⟩ (by simp) rfl)
          skip
          clear hdep
          have h8 := hM.no8 (by omega) hg
          have hB := hM.1 h8
          have hr5 := (r5 hg).rowS
          refine step_append_rowS rfl (.tmp 80) (.tmp 82) rfl W0.heap.size _ _ _ rfl (r3 hg) _ [(sf, sg)] rfl hr5 (by have := LN.out; simp; omega) hB.size ?_
          intro v' w' hown hgr
          have hown' : w'.ownsRow W0.heap.size 48 2 v' (mL q sf sg).length ((mL q sf sg).flatMap Bo.encS) := by simpa [mL] using hown
          have hB' := grow_below hB hgr (r3 hg) (Nat.le_refl _)
          exact hK.out _ _ ⟨_, _, _, _, _, _, _, _, rfl, (hM.step (by omega) hg (fun _ => hB')), (fun h k => absurd G3 (by rw [show g 3 = false from k]; simp)), q1, q2, (fun h k => absurd k (by simp)), q4, (fun h k => absurd k (by simp)), fun _ _ => ⟨G3, hown'⟩, q7⟩
        · simp only [List.getElem?_toArray, List.getElem?_cons_zero, List.getElem?_cons_succ, Option.some.injEq] at ho
          subst ho
          clear hdep
          have h8 := hM.no8 (by omega) hg
          have hB := hM.1 h8
          go_simp
          exact hK.out _ _ ⟨_, _, _, _, _, _, _, _, rfl, (hM.step (by omega) hg (fun h => h)), q0, q1, q2, q3, q4, q5, q6, fun _ => rfl⟩
        · simp only [List.getElem?_toArray, List.getElem?_cons_zero, List.getElem?_cons_succ, Option.some.injEq] at ho
          subst ho
          have r6 := q6 (hdep ⟨6, .data⟩ (by simp) rfl)
          have GA : ∀ j, j < 8 → g j = true := by
            intro j hj
            rcases (show j = 0 ∨ j = 1 ∨ j = 2 ∨ j = 3 ∨ j = 4 ∨ j = 5 ∨ j = 6 ∨ j = 7 by omega) with rfl | rfl | rfl | rfl | rfl | rfl | rfl | rfl
            · exact hdep ⟨0, .phase⟩ (by simp) rfl
            · exact hdep ⟨1, .phase⟩ (by simp) rfl
            · exact hdep ⟨2, .phase⟩ (by simp) rfl
            · exact hdep ⟨3, .phase⟩ (by simp) rfl
            · exact hdep ⟨4, .phase⟩ (by simp) rfl
            · exact hdep ⟨5, .phase⟩ (by simp) rfl
            · exact hdep ⟨6, .data⟩ (by simp) rfl
            · exact hdep ⟨7, .data⟩ (by simp) rfl
          have r7 := q7 (hdep ⟨7, .data⟩ (by simp) rfl)
          subst r7
          clear hdep
          have hB := hM.1 hg
          have RM := RW1.out.below hB
          have u8 : W.cell? ⟨w4.heap.size, 13, none⟩ = some (.slice a0 q.l.length cap) := RM.cell 13
          have uf : W.frozen? ⟨w4.heap.size, 13, none⟩ = false := RM.free 13
          obtain ⟨Ua, Uc, rfl⟩ : ∃ A c, v83 = .slice A (mL q sf sg).length c := by
            rcases (r6 hg).2.2 with ⟨e, e0⟩ | ⟨b, cp, cur, e, _⟩
            · exact ⟨none, 0, by rw [e, e0]⟩
            · exact ⟨_, _, e⟩
          go_simp
          exact hK.out _ _ ⟨_, _, _, _, _, _, _, _, rfl, MI.last GA hB (r6 hg).2, (fun h k => absurd (GA 3 (by omega)) (by rw [show g 3 = false from k]; simp)), (fun _ => rfl), (fun _ => rfl), (fun h k => absurd (GA 6 (by omega)) (by rw [show g 6 = false from k]; simp)), (fun _ => rfl), (fun h k => absurd (GA 6 (by omega)) (by rw [show g 6 = false from k]; simp)), (fun h k => absurd k (by simp)), q7⟩
      case hend =>
        intro g c W hI hall
        obtain ⟨v77, v78, v79, v80, v81, v82, v83, v84, rfl, hM, q0, q1, q2, q3, q4, q5, q6, q7⟩ := hI
        have r0 := q0 (hall 0 (by decide))
        skip
        have r1 := q1 (hall 1 (by decide))
        subst r1
        have r2 := q2 (hall 2 (by decide))
        subst r2
        have r3 := q3 (hall 3 (by decide))
        skip
        have r4 := q4 (hall 4 (by decide))
        subst r4
        have r5 := q5 (hall 5 (by decide))
        skip
        have r6 := q6 (hall 6 (by decide))
        skip
        have r7 := q7 (hall 7 (by decide))
        subst r7
        clear q0 q1 q2 q3 q4 q5 q6 q7
        have sd := (hM.2 (hall 8 (by decide))).2
        obtain ⟨Ua, Uc, k7, rm, ru⟩ := SD.out sd LL.out BM.out (by have := SZ.out; omega) S7.out RW1.out HI.out (by have := LN.out; omega)
        have S8 := Lib.hid k7
        have RM := Lib.hid rm
        have RU := Lib.hid ru
        clear sd k7 rm ru hM hall r0 r3 r5 r6 S7 RW1 SZ
        obtain ⟨d0, d1, d2, d3, d4, d5, d6, d7, d8, d9, d10, d11, d12, d13⟩ := cells14 RM.out
        go_wp2_with fail
        refine (KM.out _ _ S8.out RU.out).mono ?_
        rintro e w8 ⟨rfl, hb8⟩
        have S9 := Lib.hid (S8.out.next hb8)
        have RM9 := Lib.hid (RM.out.below hb8)
        have RU9 := Lib.hid (RU.out.below hb8)
        clear hb8 d0 d1 d2 d3 d4 d5 d6 d7 d8 d9 d10 d11 d12 d13 S8 RM RU
        obtain ⟨g0, g1⟩ := S9.out.c2
        rcases MR.out with ⟨e1, hbad⟩ | ⟨e1, his⟩
        · obtain rfl : er1 = 16 := HE1.out.symm.trans e1
          clear e1 MR
          by_cases x1 : sf < 0
          · have t1 : decide (sf < 0) = true := decide_eq_true x1
            clear x1 hbad
            go_wp2_with fail
            refine (WK.out _ S9.out.lay).mono ?_
            rintro e w9 ⟨rfl, hb9⟩
            have QW := Lib.hid (S9.out.next hb9)
            clear hb9
            go_wp2_with fail
            go_ret
            exact ⟨rfl, QW.out.below⟩
          have t1 : decide (sf < 0) = false := decide_eq_false x1
          by_cases x2 : 253402300799 < sg
          · have t2 : decide (253402300799 < sg) = true := decide_eq_true x2
            clear x1 x2 hbad
            go_wp2_with fail
            refine (WK.out _ S9.out.lay).mono ?_
            rintro e w9 ⟨rfl, hb9⟩
            have QW := Lib.hid (S9.out.next hb9)
            clear hb9
            go_wp2_with fail
            go_ret
            exact ⟨rfl, QW.out.below⟩
          have t2 : decide (253402300799 < sg) = false := decide_eq_false x2
          have t3 : decide (sg < sf) = true := decide_eq_true (by omega)
          clear x1 x2 hbad
          go_wp2_with fail
          refine (WK.out _ S9.out.lay).mono ?_
          rintro e w9 ⟨rfl, hb9⟩
          have QW := Lib.hid (S9.out.next hb9)
          clear hb9
          go_wp2_with fail
          go_ret
          exact ⟨rfl, QW.out.below⟩
        · obtain rfl : er1 = 0 := HE1.out.symm.trans e1
          have I3 := Lib.hid (fun W u (h : SK w q (.slice a0 q.l.length cap) sf sg W) (hu : Bo.RowS W u (mL q sf sg)) => (show Calls Tryz.prog 15 #[.agg #[.int .i64 q.k, .int .u64 q.x.a0, .int .u64 q.x.a1, .int .u64 q.x.a2, .int .u64 q.x.a3, .int .u64 q.x.a4, .int .u64 q.x.a5, .bool q.x.b3, .bool q.x.b5, .int .i64 q.z, .int .i64 q.s, .int .i64 q.p, .int .i64 q.c, u], .int .i64 t] W fun e w' => e = .returned (.tuple #[.bool ((true && !true) && (decide (t < sf) || decide (sg < t))), .int .i64 0]) ∧ Below W.heap.size W w' from pis_any (q.more sf sg) HX.out u t _ 0 his W h.lay hu))
          clear e1 his MR
          obtain ⟨d0, d1, d2, d3, d4, d5, d6, d7, d8, d9, d10, d11, d12, d13⟩ := cells14 RM9.out
          go_wp2_with fail
          refine (I3.out _ _ S9.out RU9.out).mono ?_
          rintro e w10 ⟨rfl, hb10⟩
          have SA := Lib.hid (S9.out.next hb10)
          clear hb10 d0 d1 d2 d3 d4 d5 d6 d7 d8 d9 d10 d11 d12 d13 g0 g1
          obtain ⟨g0, g1⟩ := SA.out.c2
          go_wp2_with fail
          refine (WK.out _ SA.out.lay).mono ?_
          rintro e w9 ⟨rfl, hb9⟩
          have QW := Lib.hid (SA.out.next hb9)
          clear hb9
          go_wp2_with fail
          go_ret
          exact ⟨rfl, QW.out.below⟩
    | false =>
      go_wp2_with fail
      obtain ⟨W0, hW0⟩ : ∃ W0, w4.alloc (.cells #[.int .i64 q.k, .int .u64 q.x.a0, .int .u64 q.x.a1, .int .u64 q.x.a2, .int .u64 q.x.a3, .int .u64 q.x.a4, .int .u64 q.x.a5, .bool q.x.b3, .bool q.x.b5, .int .i64 q.z, .int .i64 q.s, .int .i64 q.p, .int .i64 q.c, (.slice a0 q.l.length cap)] 29) = W0 := ⟨_, rfl⟩
      have SZ : Hid (W0.heap.size = w4.heap.size + 1) := Lib.hid (by rw [← hW0]; simp)
      have s6 := S6.out
      have rw0 := RW0.out
      simp only [plL] at rw0
      rw [hW0] at s6 rw0
      simp only [hW0]
      have S7 := Lib.hid s6
      have RW1 : Hid (Row W0 w4.heap.size 29 (plL q (.slice a0 q.l.length cap))) := Lib.hid rw0
      clear hW0 s6 rw0 S6 RW0 S5 c0 c1 c2 c3 c4 c5 c6 c7 c8 c9 c10 c11 c12 c13
      apply wp_region_inv (SI w q (.slice a0 q.l.length cap) sf sg W0 w4.heap.size _ _ _ _ _ _ _ _ _ _ _ _ _ _ _ _ _ _ _ _ _ _ _ _ _ _ _ _ _ _ _ _ _ _ _ _ _ _ _ _ _ _ _ _ _ _ _ _ _ _ _ _ _ _ _ _ _ _ _ _ _ _ _ _ _ _ _ _ _ _ _ _ _ _ _ _ _ _ _ _ _ _ _ _ _ _ _ _ _ _ _ _ _ _ _ _ _ _ _ _ _ _ _ _ _ _ _ _ _ _ _ _ _ _ _ _ _ _ _ _ _ _ _ _ _ _) (by kernel_rfl)
      case h0 => exact ⟨_, _, _, _, _, _, _, _, rfl, ⟨fun _ => (Below.refl _ W0).drew, fun k => absurd k (by decide)⟩, (fun h => by cases h), (fun h => by cases h), (fun h => by cases h), (fun h => by cases h), (fun h => by cases h), (fun h => by cases h), (fun h => by cases h), (fun h => by cases h)⟩
      case htopo => kernel_rfl
      case hstep =>
        intro i o g c W ho hI hg hdep K' hK
        obtain ⟨v77, v78, v79, v80, v81, v82, v83, v84, rfl, hM, q0, q1, q2, q3, q4, q5, q6, q7⟩ := hI
        have hi : i < 9 := (Array.getElem?_eq_some_iff.1 ho).1
        rcases (show i = 0 ∨ i = 1 ∨ i = 2 ∨ i = 3 ∨ i = 4 ∨ i = 5 ∨ i = 6 ∨ i = 7 ∨ i = 8 by omega) with rfl | rfl | rfl | rfl | rfl | rfl | rfl | rfl | rfl
        · simp only [List.getElem?_toArray, List.getElem?_cons_zero, Option.some.injEq] at ho
          subst ho
          clear hdep
          have h8 := hM.no8 (by omega) hg
          have hB := hM.1 h8
          go_simp
          exact hK.out _ _ ⟨_, _, _, _, _, _, _, _, rfl, (hM.step (by omega) hg (fun h => h.alloc h.size _)), fun _ _ => World.ownsRow_made W #[] 0 hB.size (by simp [maxLen]) (by simp), q1, q2, (fun h k => (q3 h k).alloc _), q4, (fun h k => by obtain ⟨b, e, r, _⟩ := q5 h k; exact ⟨b, e, r.alloc _, fun _ z => by have := r.lt; simp [Value.ownBlock] at z; omega⟩), (fun h k => ⟨(q6 h k).1, (q6 h k).2.alloc _⟩), q7⟩
        · simp only [List.getElem?_toArray, List.getElem?_cons_zero, List.getElem?_cons_succ, Option.some.injEq] at ho
          subst ho
          clear hdep
          have h8 := hM.no8 (by omega) hg
          have hB := hM.1 h8
          go_simp
          exact hK.out _ _ ⟨_, _, _, _, _, _, _, _, rfl, (hM.step (by omega) hg (fun h => h)), q0, fun _ => rfl, q2, q3, q4, q5, q6, q7⟩
        · simp only [List.getElem?_toArray, List.getElem?_cons_zero, List.getElem?_cons_succ, Option.some.injEq] at ho
          subst ho
          have r1 := q1 (hdep ⟨1, .data⟩ (by simp) rfl)
          subst r1
          clear hdep
          have h8 := hM.no8 (by omega) hg
          have hB := hM.1 h8
          have u2 : W.cell? ⟨w.heap.size, 13, none⟩ = some (.slice a0 q.l.length cap) := ((S7.out.r1.below hB).cell 13)
          go_simp
          exact hK.out _ _ ⟨_, _, _, _, _, _, _, _, rfl, (hM.step (by omega) hg (fun h => h)), q0, q1, fun _ => rfl, q3, q4, q5, q6, q7⟩
        · simp only [List.getElem?_toArray, List.getElem?_cons_zero, List.getElem?_cons_succ, Option.some.injEq] at ho
          subst ho
          have r0 := q0 (hdep ⟨0, .data⟩ (by simp) rfl)
          have G0 : g 0 = true := hdep ⟨0, .data⟩ (by simp) rfl
          have r2 := q2 (hdep ⟨2, .data⟩ (by simp) rfl)
          subst r2
          clear hdep
          have h8 := hM.no8 (by omega) hg
          have hB := hM.1 h8
          refine step_append_rowS rfl (.tmp 77) (.tmp 79) rfl W0.heap.size _ 0 [] rfl (r0 hg) _ q.l rfl (S7.out.sp.below hB) (by have := LN.out; omega) hB.size ?_
          intro v' w' hown hgr
          simp only [List.nil_append, Nat.zero_add] at hown
          have hB' := grow_below hB hgr (r0 hg) (Nat.le_refl _)
          exact hK.out _ _ ⟨_, _, _, _, _, _, _, _, rfl, (hM.step (by omega) hg (fun _ => hB')), (fun h k => absurd k (by simp)), q1, q2, fun _ _ => hown, q4, (fun h k => by obtain ⟨b, e, r, z⟩ := q5 h k; exact ⟨b, e, (hgr.block b r.lt (fun y => z ⟨G0, hg⟩ y.symm)).trans r, fun y => absurd y.2 (by simp)⟩), (fun h k => absurd (q6 h k).1 (by rw [hg]; simp)), q7⟩
        · simp only [List.getElem?_toArray, List.getElem?_cons_zero, List.getElem?_cons_succ, Option.some.injEq] at ho
          subst ho
          clear hdep
          have h8 := hM.no8 (by omega) hg
          have hB := hM.1 h8
          have u40 : W.cell? ⟨w.heap.size + 1, 0, none⟩ = some (.int .i64 sf) := ((S7.out.r2.below hB).cell 0)
          have u41 : W.cell? ⟨w.heap.size + 1, 1, none⟩ = some (.int .i64 sg) := ((S7.out.r2.below hB).cell 1)
          go_simp
          exact hK.out _ _ ⟨_, _, _, _, _, _, _, _, rfl, (hM.step (by omega) hg (fun h => h)), q0, q1, q2, q3, fun _ => rfl, q5, q6, q7⟩
        · simp only [List.getElem?_toArray, List.getElem?_cons_zero, List.getElem?_cons_succ, Option.some.injEq] at ho
          subst ho
          have r4 := q4 (hdep ⟨4, .data⟩ (by simp) rfl)
          subst r4
          clear hdep
          have h8 := hM.no8 (by omega) hg
          have hB := hM.1 h8
          go_simp
          exact hK.out _ _ ⟨_, _, _, _, _, _, _, _, rfl, (hM.step (by omega) hg (fun h => h.alloc h.size _)), (fun h k => (q0 h k).alloc _), q1, q2, (fun h k => (q3 h k).alloc _), q4, fun _ _ => ⟨_, rfl, Row.new W [.int .i64 sf, .int .i64 sg] _, fun p z => by have := (q0 p.1 p.2).lt _ z; omega⟩, (fun h k => ⟨(q6 h k).1, (q6 h k).2.alloc _⟩), q7⟩
        · simp only [List.getElem?_toArray, List.getElem?_cons_zero, List.getElem?_cons_succ, Option.some.injEq] at ho
          subst ho
          have r3 := q3 (hdep ⟨3, .data⟩ (by simp) rfl)
          have G3 : g 3 = true := hdep ⟨3, .data⟩ (by simp) rfl
          have r5 := q5 (hdep ⟨5, .data⟩ (by simp) rfl)
          skip
          clear hdep
          have h8 := hM.no8 (by omega) hg
          have hB := hM.1 h8
          have hr5 := (r5 hg).rowS
          refine step_append_rowS rfl (.tmp 80) (.tmp 82) rfl W0.heap.size _ _ _ rfl (r3 hg) _ [(sf, sg)] rfl hr5 (by have := LN.out; simp; omega) hB.size ?_
          intro v' w' hown hgr
          have hown' : w'.ownsRow W0.heap.size 48 2 v' (mL q sf sg).length ((mL q sf sg).flatMap Bo.encS) := by simpa [mL] using hown
          have hB' := grow_below hB hgr (r3 hg) (Nat.le_refl _)
          exact hK.out _ _ ⟨_, _, _, _, _, _, _, _, rfl, (hM.step (by omega) hg (fun _ => hB')), (fun h k => absurd G3 (by rw [show g 3 = false from k]; simp)), q1, q2, (fun h k => absurd k (by simp)), q4, (fun h k => absurd k (by simp)), fun _ _ => ⟨G3, hown'⟩, q7⟩
        · simp only [List.getElem?_toArray, List.getElem?_cons_zero, List.getElem?_cons_succ, Option.some.injEq] at ho
          subst ho
          clear hdep
          have h8 := hM.no8 (by omega) hg
          have hB := hM.1 h8
          go_simp
          exact hK.out _ _ ⟨_, _, _, _, _, _, _, _, rfl, (hM.step (by omega) hg (fun h => h)), q0, q1, q2, q3, q4, q5, q6, fun _ => rfl⟩
        · simp only [List.getElem?_toArray, List.getElem?_cons_zero, List.getElem?_cons_succ, Option.some.injEq] at ho
          subst ho
          have r6 := q6 (hdep ⟨6, .data⟩ (by simp) rfl)
          have GA : ∀ j, j < 8 → g j = true := by
            intro j hj
            rcases (show j = 0 ∨ j = 1 ∨ j = 2 ∨ j = 3 ∨ j = 4 ∨ j = 5 ∨ j = 6 ∨ j = 7 by omega) with rfl | rfl | rfl | rfl | rfl | rfl | rfl | rfl
            · exact hdep ⟨0, .phase⟩ (by simp) rfl
            · exact hdep ⟨1, .phase⟩ (by simp) rfl
            · exact hdep ⟨2, .phase⟩ (by simp) rfl
            · exact hdep ⟨3, .phase⟩ (by simp) rfl
            · exact hdep ⟨4, .phase⟩ (by simp) rfl
            · exact hdep ⟨5, .phase⟩ (by simp) rfl
            · exact hdep ⟨6, .data⟩ (by simp) rfl
            · exact hdep ⟨7, .data⟩ (by simp) rfl
          have r7 := q7 (hdep ⟨7, .data⟩ (by simp) rfl)
          subst r7
          clear hdep
          have hB := hM.1 hg
          have RM := RW1.out.below hB
          have u8 : W.cell? ⟨w4.heap.size, 13, none⟩ = some (.slice a0 q.l.length cap) := RM.cell 13
          have uf : W.frozen? ⟨w4.heap.size, 13, none⟩ = false := RM.free 13
          obtain ⟨Ua, Uc, rfl⟩ : ∃ A c, v83 = .slice A (mL q sf sg).length c := by
            rcases (r6 hg).2.2 with ⟨e, e0⟩ | ⟨b, cp, cur, e, _⟩
            · exact ⟨none, 0, by rw [e, e0]⟩
            · exact ⟨_, _, e⟩
          go_simp
          exact hK.out _ _ ⟨_, _, _, _, _, _, _, _, rfl, MI.last GA hB (r6 hg).2, (fun h k => absurd (GA 3 (by omega)) (by rw [show g 3 = false from k]; simp)), (fun _ => rfl), (fun _ => rfl), (fun h k => absurd (GA 6 (by omega)) (by rw [show g 6 = false from k]; simp)), (fun _ => rfl), (fun h k => absurd (GA 6 (by omega)) (by rw [show g 6 = false from k]; simp)), (fun h k => absurd k (by simp)), q7⟩
      case hend =>
        intro g c W hI hall
        obtain ⟨v77, v78, v79, v80, v81, v82, v83, v84, rfl, hM, q0, q1, q2, q3, q4, q5, q6, q7⟩ := hI
        have r0 := q0 (hall 0 (by decide))
        skip
        have r1 := q1 (hall 1 (by decide))
        subst r1
        have r2 := q2 (hall 2 (by decide))
        subst r2
        have r3 := q3 (hall 3 (by decide))
        skip
        have r4 := q4 (hall 4 (by decide))
        subst r4
        have r5 := q5 (hall 5 (by decide))
        skip
        have r6 := q6 (hall 6 (by decide))
        skip
        have r7 := q7 (hall 7 (by decide))
        subst r7
        clear q0 q1 q2 q3 q4 q5 q6 q7
        have sd := (hM.2 (hall 8 (by decide))).2
        obtain ⟨Ua, Uc, k7, rm, ru⟩ := SD.out sd LL.out BM.out (by have := SZ.out; omega) S7.out RW1.out HI.out (by have := LN.out; omega)
        have S8 := Lib.hid k7
        have RM := Lib.hid rm
        have RU := Lib.hid ru
        clear sd k7 rm ru hM hall r0 r3 r5 r6 S7 RW1 SZ
        obtain ⟨d0, d1, d2, d3, d4, d5, d6, d7, d8, d9, d10, d11, d12, d13⟩ := cells14 RM.out
        go_wp2_with fail
        refine (KM.out _ _ S8.out RU.out).mono ?_
        rintro e w8 ⟨rfl, hb8⟩
        have S9 := Lib.hid (S8.out.next hb8)
        have RM9 := Lib.hid (RM.out.below hb8)
        have RU9 := Lib.hid (RU.out.below hb8)
        clear hb8 d0 d1 d2 d3 d4 d5 d6 d7 d8 d9 d10 d11 d12 d13 S8 RM RU
        obtain ⟨g0, g1⟩ := S9.out.c2
        rcases MR.out with ⟨e1, hbad⟩ | ⟨e1, his⟩
        · obtain rfl : er1 = 16 := HE1.out.symm.trans e1
          clear e1 MR
          by_cases x1 : sf < 0
          · have t1 : decide (sf < 0) = true := decide_eq_true x1
            clear x1 hbad
            go_wp2_with fail
            refine (WK.out _ S9.out.lay).mono ?_
            rintro e w9 ⟨rfl, hb9⟩
            have QW := Lib.hid (S9.out.next hb9)
            clear hb9
            go_wp2_with fail
            go_ret
            exact ⟨rfl, QW.out.below⟩
          have t1 : decide (sf < 0) = false := decide_eq_false x1
          by_cases x2 : 253402300799 < sg
          · have t2 : decide (253402300799 < sg) = true := decide_eq_true x2
            clear x1 x2 hbad
            go_wp2_with fail
            refine (WK.out _ S9.out.lay).mono ?_
            rintro e w9 ⟨rfl, hb9⟩
            have QW := Lib.hid (S9.out.next hb9)
            clear hb9
            go_wp2_with fail
            go_ret
            exact ⟨rfl, QW.out.below⟩
          have t2 : decide (253402300799 < sg) = false := decide_eq_false x2
          have t3 : decide (sg < sf) = true := decide_eq_true (by omega)
          clear x1 x2 hbad
          go_wp2_with fail
          refine (WK.out _ S9.out.lay).mono ?_
          rintro e w9 ⟨rfl, hb9⟩
          have QW := Lib.hid (S9.out.next hb9)
          clear hb9
          go_wp2_with fail
          go_ret
          exact ⟨rfl, QW.out.below⟩
        · obtain rfl : er1 = 0 := HE1.out.symm.trans e1
          have I3 := Lib.hid (fun W u (h : SK w q (.slice a0 q.l.length cap) sf sg W) (hu : Bo.RowS W u (mL q sf sg)) => (show Calls Tryz.prog 15 #[.agg #[.int .i64 q.k, .int .u64 q.x.a0, .int .u64 q.x.a1, .int .u64 q.x.a2, .int .u64 q.x.a3, .int .u64 q.x.a4, .int .u64 q.x.a5, .bool q.x.b3, .bool q.x.b5, .int .i64 q.z, .int .i64 q.s, .int .i64 q.p, .int .i64 q.c, u], .int .i64 t] W fun e w' => e = .returned (.tuple #[.bool ((true && !false) && (decide (t < sf) || decide (sg < t))), .int .i64 0]) ∧ Below W.heap.size W w' from pis_any (q.more sf sg) HX.out u t _ 0 his W h.lay hu))
          clear e1 his MR
          obtain ⟨d0, d1, d2, d3, d4, d5, d6, d7, d8, d9, d10, d11, d12, d13⟩ := cells14 RM9.out
          by_cases x1 : t < sf
          · have t1 : decide (t < sf) = true := decide_eq_true x1
            clear x1
            go_wp2_with fail
            refine (I3.out _ _ S9.out RU9.out).mono ?_
            rintro e w10 ⟨rfl, hb10⟩
            have SA := Lib.hid (S9.out.next hb10)
            clear hb10 d0 d1 d2 d3 d4 d5 d6 d7 d8 d9 d10 d11 d12 d13 g0 g1
            obtain ⟨g0, g1⟩ := SA.out.c2
            go_wp2_with fail
            refine (WK.out _ SA.out.lay).mono ?_
            rintro e w9 ⟨rfl, hb9⟩
            have QW := Lib.hid (SA.out.next hb9)
            clear hb9
            go_wp2_with fail
            go_ret
            exact ⟨rfl, QW.out.below⟩
          have t1 : decide (t < sf) = false := decide_eq_false x1
          by_cases x2 : sg < t
          · have t2 : decide (sg < t) = true := decide_eq_true x2
            clear x1 x2
            go_wp2_with fail
            refine (I3.out _ _ S9.out RU9.out).mono ?_
            rintro e w10 ⟨rfl, hb10⟩
            have SA := Lib.hid (S9.out.next hb10)
            clear hb10 d0 d1 d2 d3 d4 d5 d6 d7 d8 d9 d10 d11 d12 d13 g0 g1
            obtain ⟨g0, g1⟩ := SA.out.c2
            go_wp2_with fail
            refine (WK.out _ SA.out.lay).mono ?_
            rintro e w9 ⟨rfl, hb9⟩
            have QW := Lib.hid (SA.out.next hb9)
            clear hb9
            go_wp2_with fail
            go_ret
            exact ⟨rfl, QW.out.below⟩
          have t2 : decide (sg < t) = false := decide_eq_false x2
          clear x1 x2
          go_wp2_with fail
          refine (I3.out _ _ S9.out RU9.out).mono ?_
          rintro e w10 ⟨rfl, hb10⟩
          have SA := Lib.hid (S9.out.next hb10)
          clear hb10 d0 d1 d2 d3 d4 d5 d6 d7 d8 d9 d10 d11 d12 d13 g0 g1
          obtain ⟨g0, g1⟩ := SA.out.c2
          go_wp2_with fail
          refine (WK.out _ SA.out.lay).mono ?_
          rintro e w9 ⟨rfl, hb9⟩
          have QW := Lib.hid (SA.out.next hb9)
          clear hb9
          go_wp2_with fail
          go_ret
          exact ⟨rfl, QW.out.below⟩

set_option maxRecDepth 100000 in
theorem lifted (os : Os) (started : os.Started) (H : Type) (enc : TypeId × Value → H) :
    ReturnsInHanded {} Tryz.checked os 8 .any (fun w args => (Rows.planSkipsSpec.pre enc Tryz.prog Tryz.f8 [] false w args ∧ laidMetH Tryz.prog Rows.planSkipsRow.laid w) ∧ sizedMet enc Tryz.prog Tryz.f8 (OpenSpec.ofChange Rows.planSkipsSpec) false w args)
      (Rows.planSkipsSpec.post enc Tryz.prog Tryz.f8 false true false false) := by
  refine returnsInHanded_of_change_and (C := Tryz.checked) (X := fun w _ => laidMetH Tryz.prog Rows.planSkipsRow.laid w) (fun _ _ _ hh h => h.of_heap hh) own started (by kernel_rfl) Tryz.func8
    (ChangeSpec.witness_shaped (enc := enc) (C := Tryz.checked) (os := os) (X := fun w _ => laidMetH Tryz.prog Rows.planSkipsRow.laid w) false (World.laidAll Tryz.prog os Rows.planSkipsRow.laid) #[.agg #[.int .i64 0, .int .u64 0, .int .u64 0, .int .u64 0, .int .u64 0, .int .u64 0, .int .u64 0, .bool false, .bool false, .int .i64 0, .int .i64 0, .int .i64 0, .int .i64 0, .slice none 0 0], .int .i64 0, .agg #[.int .i64 0, .int .i64 0]] 8 (World.laidAll_os _ _ _) (World.shaped_of_ZipB (by kernel_rfl) (by kernel_rfl)) (by kernel_rfl) (by kernel_rfl) (by kernel_rfl) (by rw [MakeChecks.laidMetH_plain _ _ _ (by kernel_rfl)]; exact laidMet_laidAll _ (by kernel_rfl) (by kernel_rfl))) ?_
  intro W base args ds gs before hval0 hW _ _ hL _
  have hval : ∀ (j : Nat) t v, Tryz.f8.params[j]? = some t → args[j]? = some v → Value.okWide Tryz.prog W .any base t v := hval0
  have hW' := hW
  obtain ⟨p, q, hA0, hV, rfl, hfz, hnd⟩ := hW
  have hA : DataW.TrodAll enc Tryz.prog W 0 (fun _ => true) true Tryz.f8.params.toList args.toList ds p := hA0
  rw [Tryz.params8] at hA hval
  obtain ⟨v0, vs0, d0, ds0, p0, q0, hargs, rfl, rfl, h0, r0⟩ := trodAll_cons hA
  obtain ⟨v1, vs1, d1, ds1, p1, q1, rfl, rfl, rfl, h1, r1⟩ := trodAll_cons r0
  obtain ⟨v2, vs2, d2, ds2, p2, q2, rfl, rfl, rfl, h2, r2⟩ := trodAll_cons r1
  obtain ⟨rfl, rfl, rfl⟩ := trodAll_nil r2
  obtain rfl : args = #[v0, v1, v2] := by cases args; simp_all
  obtain ⟨rfl, rfl⟩ := trodVars_none hV
  obtain ⟨pl0, a0, cap0, rfl, b0, w0, i0⟩ := open_plan (hval 0 29 v0 rfl rfl) h0
  have k0 := h0
  have lt0 : ∀ x ∈ p0, x.block < W.heap.size := by obtain ⟨m, hm⟩ := k0; exact DataW.trod_lt m _ _ _ hm
  obtain ⟨a1, rfl, rfl, rfl, w1⟩ := open_int Tryz.underlying2 (hval 1 2 v1 rfl rfl) h1
  obtain ⟨f2, t2, rfl, b2, w2⟩ := open_span (hval 2 48 v2 rfl rfl) h2
  have k2 := h2
  have lt2 : ∀ x ∈ p2, x.block < W.heap.size := by obtain ⟨m, hm⟩ := k2; exact DataW.trod_lt m _ _ _ hm
  clear hA0 hval0
  refine (walk pl0 a0 cap0 a1 f2 t2 W (layM_of _ W (by kernel_rfl) (.head _) (.tail _ (.head _)) (by kernel_rfl) (by kernel_rfl) hL) b0 w0 i0 w1 b2 w2).mono fun e W' ⟨he, bel⟩ => ?_
  subst he
  exact ⟨_, rfl, _, _, _, [], _, [], hW', trodAll_mk1 (shut_bool Tryz.underlying4 _), (trodAll_cons_mk (Below.trod laidOut (by kernel_rfl) (of_decide_eq_true (by kernel_rfl)) k0 bel lt0) (trodAll_cons_mk (shut_int Tryz.underlying2 w1) (trodAll_cons_mk (Below.trod laidOut (by kernel_rfl) (of_decide_eq_true (by kernel_rfl)) k2 bel lt2) trodAll_mk0))), rfl, bel.frame _, fun h => by cases h⟩

theorem row_holds : Rows.PlanSkipsSaid :=
  OpenClaim.holds_of_wide 8 Tryz.f8 rfl rfl rfl rfl rfl rfl rfl ⟨rfl, rfl, rfl, rfl, rfl⟩ rfl rfl rfl rfl rfl (by kernel_rfl) Tryz.func8 (by kernel_rfl)
    (of_decide_eq_true (by kernel_rfl)) (by unfold Func.isWrapper; first | (rw [if_pos (by decide +kernel)]; kernel_rfl) | (rw [if_neg (by decide +kernel)]; exact ⟨rfl, rfl⟩))
    (fun os started H enc _ => lifted os started H enc)

theorem proved : Rows.PlanSkipsCardSaid :=
  Claim7.holds_tied_plain_at .later [] Rows.planSkipsCard.laidKinds true Rows.planSkipsCard.stood.harness Rows.planSkipsCard.stood.looks
    row_holds (fun _ h => by cases h) (by kernel_rfl) (fun _ h => by cases h) planSkips_row_tie rfl ⟨rfl, rfl⟩ (by kernel_rfl) rfl
    (fun f fn hf hfn => by
      obtain rfl : f = 8 := Option.some.inj ((show Tryz.prog.funcNamed Rows.planSkipsRow.func = some 8 by kernel_rfl).symm.trans hf) |>.symm
      obtain rfl : fn = Tryz.f8 := (Option.some.inj (Tryz.func8.symm.trans hfn)).symm
      exact ⟨looks0, fun j t ht => by
        rw [Tryz.params8] at ht
        have hm : t ∈ [29, 2, 48] := by simpa using Array.mem_of_getElem? ht
        have hall : ([29, 2, 48].all fun u => !Tryz.prog.wantsStandIn u) = true := by kernel_rfl
        exact (show Tryz.prog.wantsStandIn t = false by simpa using List.all_eq_true.1 hall t hm)⟩)
    (by kernel_rfl)

end Go.Proofs.YtljackjcgfaanaaGreatDoor.planSkips
