/- plan's Next. plan's List. plan's Count. plan's Due over a slice of plans. -/
import Derived.Test.YtljackjcgfaanaaGreatDoorGPlaE
/- plan's Next. -/
namespace Go.Proofs.YtljackjcgfaanaaGreatDoor
open Go.ChangeShapes Go.RowKit Go.Shelf

theorem times_any (q : Pl.P) (v : Value) (a b : Int) (w : World) :
    Calls Tryz.prog 41 #[.agg #[.int .i64 q.k, .int .u64 q.x.a0, .int .u64 q.x.a1, .int .u64 q.x.a2, .int .u64 q.x.a3, .int .u64 q.x.a4, .int .u64 q.x.a5, .bool q.x.b3, .bool q.x.b5, .int .i64 q.z, .int .i64 q.s, .int .i64 q.p, .int .i64 q.c, v], .int .i64 a, .int .i64 b] w fun e w' => e = .returned (.func (.func 59) #[] #[.pointer (some ⟨w.heap.size, 0, none⟩), .pointer (some ⟨w.heap.size + 1, 0, none⟩), .pointer (some ⟨w.heap.size + 1 + 1, 0, none⟩)]) ∧
      w' = ((w.alloc (.cells #[.int .i64 q.k, .int .u64 q.x.a0, .int .u64 q.x.a1, .int .u64 q.x.a2, .int .u64 q.x.a3, .int .u64 q.x.a4, .int .u64 q.x.a5, .bool q.x.b3, .bool q.x.b5, .int .i64 q.z, .int .i64 q.s, .int .i64 q.p, .int .i64 q.c, v] 29)).alloc (.cells #[.int .i64 a] 2)).alloc (.cells #[.int .i64 b] 2) := by
  go_enter Tryz.func41, Tryz.ntmps41
  go_wp2_with fail
  go_ret
  exact ⟨rfl, rfl⟩
theorem times_stops (own : Nat → Prop) (n : Nat) (hn : 3 ≤ n) (Bp Ba Bb : Nat) (q : Pl.P) (ok : q.Ok) (hx : q.x.Bd) (v : Value) (a b : Int) (a0 : 0 ≤ a) (a1 : a ≤ 253402300800) (b1 : b ≤ 253402300799) (F : List Int) (hF : Pl.Rem q.K b F [] a) (V w : World)
    (hV : Below V.heap.size V w) (hown : ∀ b, own b → V.heap.size ≤ b ∧ b < w.heap.size) (rs : Bo.RowS V v q.l) (L : LayM V) (op : ¬ own Bp) (oa : ¬ own Ba) (ob : ¬ own Bb)
    (rp : Row w Bp 29 (plL q v)) (ca : Boxed w Ba 2 (.int .i64 a)) (cb : Boxed w Bb 2 (.int .i64 b)) :
    SeqStopsK Fence.wide n Tryz.prog 59 #[.pointer (some ⟨Bp, 0, none⟩), .pointer (some ⟨Ba, 0, none⟩), .pointer (some ⟨Bb, 0, none⟩)] tmV (Ki own w.heap.size) (fun ys => ys = F) (fun pre => pre <+: F) F.length w := fun l J Jx W hW hJ _ hY h0 =>
  titer_in n hn l Bp Ba Bb q ok hx v a b a0 a1 b1 F hF own w.heap.size V w W.heap.size J Jx hJ rfl hV hown rs L rp.lt ca.lt cb.lt op oa ob rp ca.cell cb.cell hY W hW h0
theorem bel_put {B : Nat} {a w : World} (b j : Nat) (u : Value) (h : Below B a w) (hp : B ≤ b) : Below B a (w.setCell ⟨b, j, none⟩ u) := h.setCell hp u
theorem boxed_below {W W' : World} {b : Nat} {t : TypeId} {v : Value} (x : Boxed W b t v) (h : Below W.heap.size W W') : Boxed W' b t v := (h.block b x.lt).trans x
theorem next_boxes (w : World) (cs : List Value) (tp : TypeId) (v1 v2 v3 : Value) (t1 t2 t3 : TypeId) (o : Obj) :
    Boxed (((((w.alloc (.cells cs.toArray tp)).alloc (.cells #[v1] t1)).alloc (.cells #[v2] t2)).alloc (.cells #[v3] t3)).alloc o) (w.heap.size + 1) t1 v1 ∧
    Boxed (((((w.alloc (.cells cs.toArray tp)).alloc (.cells #[v1] t1)).alloc (.cells #[v2] t2)).alloc (.cells #[v3] t3)).alloc o) (w.heap.size + 1 + 1) t2 v2 ∧
    Boxed (((((w.alloc (.cells cs.toArray tp)).alloc (.cells #[v1] t1)).alloc (.cells #[v2] t2)).alloc (.cells #[v3] t3)).alloc o) (w.heap.size + 1 + 1 + 1) t3 v3 ∧
    Row (((((w.alloc (.cells cs.toArray tp)).alloc (.cells #[v1] t1)).alloc (.cells #[v2] t2)).alloc (.cells #[v3] t3)).alloc o) w.heap.size tp cs ∧
    Below w.heap.size w (((((w.alloc (.cells cs.toArray tp)).alloc (.cells #[v1] t1)).alloc (.cells #[v2] t2)).alloc (.cells #[v3] t3)).alloc o) := by
  refine ⟨?_, ?_, ?_, ?_, ?_⟩
  · have := (((Boxed.new (w.alloc (.cells cs.toArray tp)) t1 v1).alloc (.cells #[v2] t2)).alloc (.cells #[v3] t3)).alloc o
    rwa [World.size_alloc] at this
  · have := ((Boxed.new ((w.alloc (.cells cs.toArray tp)).alloc (.cells #[v1] t1)) t2 v2).alloc (.cells #[v3] t3)).alloc o
    rwa [World.size_alloc, World.size_alloc] at this
  · have := (Boxed.new (((w.alloc (.cells cs.toArray tp)).alloc (.cells #[v1] t1)).alloc (.cells #[v2] t2)) t3 v3).alloc o
    rwa [World.size_alloc, World.size_alloc, World.size_alloc] at this
  · exact ((((Row.new w cs tp).alloc (.cells #[v1] t1)).alloc (.cells #[v2] t2)).alloc (.cells #[v3] t3)).alloc o
  · exact (((((Below.refl _ w).alloc (Nat.le_refl _) _).alloc (by simp) _).alloc (by simp; omega) _).alloc (by simp; omega) _).alloc (by simp; omega) _
set_option maxRecDepth 100000 in
set_option maxHeartbeats 4000000 in
theorem pnext_no (q : Pl.P) (hx : q.x.Bd) (v : Value) (t : Int) (r : Int) (hr : q.errT [t] = r) (z : r ≠ 0) (w : World) (L : LayM w) (h : Bo.RowS w v q.l) :
    Calls Tryz.prog 17 #[.agg #[.int .i64 q.k, .int .u64 q.x.a0, .int .u64 q.x.a1, .int .u64 q.x.a2, .int .u64 q.x.a3, .int .u64 q.x.a4, .int .u64 q.x.a5, .bool q.x.b3, .bool q.x.b5, .int .i64 q.z, .int .i64 q.s, .int .i64 q.p, .int .i64 q.c, v], .int .i64 t] w fun e w' => e = .returned (.tuple #[.int .i64 0, .bool false, .int .i64 r]) ∧ Below w.heap.size w w' := by
  have d1 : (r != 0) = true := by simpa using z
  obtain ⟨b1, b2, b3, b4, b5⟩ := next_boxes w (plL q v) 29 (.int .i64 0) (.bool false) (.int .i64 0) 2 4 32 (.cells #[.int .i64 t] 2)
  have R5 := row_second ((((w.alloc (.cells (plL q v).toArray 29)).alloc (.cells #[.int .i64 0] 2)).alloc (.cells #[.bool false] 4))) (.cells #[.int .i64 0] 32) [.int .i64 t] 2
  have HB := Lib.hid b5
  have HX := Lib.hid (And.intro b1 (And.intro b2 b3))
  have LL := Lib.hid (L.below b5)
  have HS := Lib.hid (h.below b5)
  have RR := Lib.hid R5
  simp only [World.size_alloc, plL] at HB HX LL HS RR
  have CK := Lib.hid (fun W L h R => pcheck_any q hx v (w.heap.size + 1 + 1 + 1 + 1) [t] (by simp) r hr W L h R)
  clear hx hr L h b1 b2 b3 b4 b5 R5 z
  go_enter Tryz.func17, Tryz.ntmps17
  go_wp2_with fail
  refine (CK.out _ LL.out HS.out RR.out).mono ?_
  rintro e w1 ⟨rfl, hb1⟩
  have X1 := boxed_below HX.out.1 hb1
  have X2 := boxed_below HX.out.2.1 hb1
  have X3 := boxed_below HX.out.2.2 hb1
  have c1 := X1.cell; have c2 := X2.cell; have c3 := X3.cell
  have f1 := X1.frozen; have f2 := X2.frozen; have f3 := X3.frozen
  have B2 := Lib.hid (HB.out.trans (hb1.mono HB.out.size))
  clear X1 X2 X3 hb1
  go_wp2_with fail
  refine bodyPost_ret (v := .tuple #[.int .i64 0, .bool false, .int .i64 r]) (by simp [results, Tryz.results17, go_sem, c1, c2, c3]) rfl ⟨rfl, ?_⟩
  repeat refine bel_put _ _ _ ?_ (by omega)
  exact B2.out

section
attribute [local go_sem] Oper.semAt_some
set_option maxRecDepth 100000 in
set_option maxHeartbeats 4000000 in
theorem pnext_in (n : Nat) (hn : 5 ≤ n) (q : Pl.P) (ok : q.Ok) (hx : q.x.Bd) (v : Value) (t : Int) (ht : Pl.vt t) (F : List Int) (hF : Pl.Rem q.K 253402300799 F [] (t + 1)) (w : World) (L : LayM w) (h : Bo.RowS w v q.l) :
    CallsIn Fence.wide n Tryz.prog 17 #[.agg #[.int .i64 q.k, .int .u64 q.x.a0, .int .u64 q.x.a1, .int .u64 q.x.a2, .int .u64 q.x.a3, .int .u64 q.x.a4, .int .u64 q.x.a5, .bool q.x.b3, .bool q.x.b5, .int .i64 q.z, .int .i64 q.s, .int .i64 q.p, .int .i64 q.c, v], .int .i64 t] w fun e w' => e = .returned (.tuple #[.int .i64 (F.head?.getD 0), .bool F.head?.isSome, .int .i64 0]) ∧ Below w.heap.size w w' := by
  have h1 : 1 ≤ n := by omega
  have hr : q.errT [t] = 0 := Pl.P.errT_zero.2 ⟨ok, fun u hu => by obtain rfl : u = t := (by simpa using hu); exact ht⟩
  obtain ⟨b1, b2, b3, b4, b5⟩ := next_boxes w (plL q v) 29 (.int .i64 0) (.bool false) (.int .i64 0) 2 4 32 (.cells #[.int .i64 t] 2)
  have R5 := row_second ((((w.alloc (.cells (plL q v).toArray 29)).alloc (.cells #[.int .i64 0] 2)).alloc (.cells #[.bool false] 4))) (.cells #[.int .i64 0] 32) [.int .i64 t] 2
  have HB := Lib.hid b5
  have HX := Lib.hid (And.intro b1 (And.intro b2 (And.intro b3 b4)))
  have LL := Lib.hid (L.below b5)
  have HS := Lib.hid (h.below b5)
  have RR := Lib.hid R5
  simp only [World.size_alloc, plL] at HB HX LL HS RR
  have CK := Lib.hid (fun W L h R => pcheck_any q hx v (w.heap.size + 1 + 1 + 1 + 1) [t] (by simp) 0 hr W L h R)
  have wt : IntKind.i64.wrap (t + 1) = t + 1 := by have := ht.1; have := ht.2; rw [IntKind.wrap_i64]; omega
  have ST := Lib.hid (fun own n hn Bp Ba Bb w0 hV hown op oa ob rp ca cb => times_stops own n hn Bp Ba Bb q ok hx v (t + 1) 253402300799 (by have := ht.1; omega) (by have := ht.2; omega) (by omega) F hF w w0 hV hown h L op oa ob rp ca cb)
  clear hx hr ok ht hF L h b1 b2 b3 b4 b5 R5
  refine callsIn_of_wp_marks Tryz.func17 rfl trivial ?_ rfl
  simp only [Tryz.ntmps17, List.size_toArray, List.length_cons, List.length_nil, Nat.reduceAdd, Nat.reduceSub, Array.replicate_succ, Array.replicate_zero, List.push_toArray, List.append_toArray, List.nil_append, List.cons_append]
  gi_wp2_with fail
  refine ⟨trivial, ?_⟩
  refine (callsIn_wide.2 (CK.out _ LL.out HS.out RR.out)).mono ?_
  rintro e w1 ⟨rfl, hb1⟩
  have X1 := boxed_below HX.out.1 hb1
  have X2 := boxed_below HX.out.2.1 hb1
  have X3 := boxed_below HX.out.2.2.1 hb1
  have RP := HX.out.2.2.2.below hb1
  have B1 := Lib.hid (HB.out.trans (hb1.mono HB.out.size))
  obtain ⟨c0, c1, c2, c3, c4, c5, c6, c7, c8, c9, c10, c11, c12, c13⟩ := plRow RP
  have sz : w.heap.size + 1 + 1 + 1 + 1 < w1.heap.size := by have := hb1.size; simp at this; omega
  clear hb1 RR HS LL HX CK
  gi_wp2_with fail
  refine ⟨trivial, ?_⟩
  refine (callsIn_wide.2 (times_any q v (t + 1) 253402300799 _)).mono ?_
  rintro e w2 ⟨rfl, hw2⟩
  obtain ⟨m, hm⟩ : ∃ m, w1.heap.size = m := ⟨_, rfl⟩
  have y1 := ((Boxed.new (w1.alloc (.cells #[.int .i64 q.k, .int .u64 q.x.a0, .int .u64 q.x.a1, .int .u64 q.x.a2, .int .u64 q.x.a3, .int .u64 q.x.a4, .int .u64 q.x.a5, .bool q.x.b3, .bool q.x.b5, .int .i64 q.z, .int .i64 q.s, .int .i64 q.p, .int .i64 q.c, v] 29)) 2 (.int .i64 (t + 1))).alloc (.cells #[.int .i64 253402300799] 2))
  have y2 := Boxed.new ((w1.alloc (.cells #[.int .i64 q.k, .int .u64 q.x.a0, .int .u64 q.x.a1, .int .u64 q.x.a2, .int .u64 q.x.a3, .int .u64 q.x.a4, .int .u64 q.x.a5, .bool q.x.b3, .bool q.x.b5, .int .i64 q.z, .int .i64 q.s, .int .i64 q.p, .int .i64 q.c, v] 29)).alloc (.cells #[.int .i64 (t + 1)] 2)) 2 (.int .i64 253402300799)
  have y0 : Row (((w1.alloc (.cells #[.int .i64 q.k, .int .u64 q.x.a0, .int .u64 q.x.a1, .int .u64 q.x.a2, .int .u64 q.x.a3, .int .u64 q.x.a4, .int .u64 q.x.a5, .bool q.x.b3, .bool q.x.b5, .int .i64 q.z, .int .i64 q.s, .int .i64 q.p, .int .i64 q.c, v] 29)).alloc (.cells #[.int .i64 (t + 1)] 2)).alloc (.cells #[.int .i64 253402300799] 2)) w1.heap.size 29 (plL q v) := ((Row.new w1 (plL q v) 29).alloc _).alloc _
  have BB : Below w1.heap.size w1 w2 := by rw [hw2]; exact (((Below.refl _ w1).alloc (Nat.le_refl _) _).alloc (by simp) _).alloc (by simp; omega) _
  have sz2 : w2.heap.size = w1.heap.size + 1 + 1 + 1 := by rw [hw2]; simp
  rw [← hw2] at y0 y1 y2
  simp only [World.size_alloc, hm] at y0 y1 y2
  have Y1 := boxed_below X1 BB
  have Y2 := boxed_below X2 BB
  have Y3 := boxed_below X3 BB
  have BW : Below w.heap.size w w2 := B1.out.trans (BB.mono B1.out.size)
  rw [hm]
  rw [hm] at sz sz2
  clear hw2 X1 X2 X3 RP c0 c1 c2 c3 c4 c5 c6 c7 c8 c9 c10 c11 c12 c13 hm BB
  gi_wp2_with fail
  have oown : ∀ b, (w.heap.size + 1 ≤ b ∧ b ≤ w.heap.size + 1 + 1 + 1) → w.heap.size ≤ b ∧ b < w2.heap.size := fun b k => by omega
  apply wpIn_rangeFunc_ownG rfl h1 (gf := 59) (lb := #[.pointer (some ⟨m, 0, none⟩), .pointer (some ⟨m + 1, 0, none⟩), .pointer (some ⟨m + 1 + 1, 0, none⟩)]) rfl trivial (enters_of Tryz.func59 (by kernel_rfl) rfl)
    (ST.out (fun b => w.heap.size + 1 ≤ b ∧ b ≤ w.heap.size + 1 + 1 + 1) (n - 1) (by omega) m (m + 1) (m + 1 + 1) w2 BW oown (by omega) (by omega) (by omega) y0 y1 y2) Ki.trans (Ki.book (Nat.le_refl _)) (Below.refl _ _) (fun _ => rfl)
    (fun pre W => ((Boxed W (w.heap.size + 1) 2 (.int .i64 0) ∧ (Boxed W (w.heap.size + 1 + 1) 4 (.bool false) ∧ Boxed W (w.heap.size + 1 + 1 + 1) 32 (.int .i64 0))) ∧ pre = []) ∧ Below w.heap.size w W)
    (fun c pre W => ((Boxed W (w.heap.size + 1) 2 (.int .i64 (pre.headD 0)) ∧ (Boxed W (w.heap.size + 1 + 1) 4 (.bool true) ∧ Boxed W (w.heap.size + 1 + 1 + 1) 32 (.int .i64 0))) ∧ (c = .ret ∧ ∃ x, pre = [x])) ∧ Below w.heap.size w W)
    (OwnFrom.and (OwnFrom.and (OwnFrom.and (Own.from (boxed_own _ _ _) _) (OwnFrom.and (Own.from (boxed_own _ _ _) _) (Own.from (boxed_own _ _ _) _))) (ownFrom_pure _ _)) (ownFrom_below (Nat.le_refl _) (by omega)))
    (fun c => OwnFrom.and (OwnFrom.and (OwnFrom.and (Own.from (boxed_own _ _ (fun pre : List Int => Value.int .i64 (pre.headD 0))) _) (OwnFrom.and (Own.from (boxed_own _ _ _) _) (Own.from (boxed_own _ _ _) _))) (ownFrom_pure _ _)) (ownFrom_below (Nat.le_refl _) (by omega)))
    ⟨⟨⟨Y1, Y2, Y3⟩, rfl⟩, BW⟩
    _ ?assign ?body ?done ?stop
  case assign =>
    intro l x W K hK
    simp only [tmV]
    gi_wp2
    exact hK
  case body =>
    rintro l pre x W ⟨⟨⟨v1, v2, v3⟩, rfl⟩, hB⟩ _
    have d1 := v1.cell; have d2 := v2.cell; have d3 := v3.cell
    have f1 := v1.frozen; have f2 := v2.frozen; have f3 := v3.frozen
    gi_wp2
    exact ⟨(((KeepsOthers.setCell _ _ _).trans (KeepsOthers.setCell _ _ _)).trans (KeepsOthers.setCell _ _ _)).from _, ⟨⟨((v1.set _).other (by omega) _).other (by omega) _, ((v2.other (by omega) _).set _).other (by omega) _, ((v3.other (by omega) _).other (by omega) _).set _⟩, rfl, x, rfl⟩, bel_put _ _ _ (bel_put _ _ _ (bel_put _ _ _ hB (by omega)) (by omega)) (by omega)⟩
  case done =>
    rintro D ys W hD hys ⟨⟨⟨v1, v2, v3⟩, hp⟩, hB⟩ hK
    obtain rfl : F = [] := hys.symm.trans hp
    have d1 := v1.cell; have d2 := v2.cell; have d3 := v3.cell
    have f1 := v1.frozen; have f2 := v2.frozen; have f3 := v3.frozen
    have u1 := ((v1.set (.int .i64 0)).other (by omega : w.heap.size + 1 ≠ w.heap.size + 1 + 1) (.bool false)).other (by omega : w.heap.size + 1 ≠ w.heap.size + 1 + 1 + 1) (.int .i64 0)
    have u2 := ((v2.other (by omega : w.heap.size + 1 + 1 ≠ w.heap.size + 1) (.int .i64 0)).set (.bool false)).other (by omega : w.heap.size + 1 + 1 ≠ w.heap.size + 1 + 1 + 1) (.int .i64 0)
    have u3 := ((v3.other (by omega : w.heap.size + 1 + 1 + 1 ≠ w.heap.size + 1) (.int .i64 0)).other (by omega : w.heap.size + 1 + 1 + 1 ≠ w.heap.size + 1 + 1) (.bool false)).set (.int .i64 0)
    clear hp hys
    gi_wp2
    have hK' := (((KeepsOthers.setCell W ⟨w.heap.size + 1, 0, none⟩ (.int .i64 0)).trans (KeepsOthers.setCell _ ⟨w.heap.size + 1 + 1, 0, none⟩ (.bool false))).trans (KeepsOthers.setCell _ ⟨w.heap.size + 1 + 1 + 1, 0, none⟩ (.int .i64 0))).same D _ hK rfl
    refine ⟨by simp, .inl ⟨_, _, rfl, run_takeDeferred hK', ?_⟩⟩
    have e1 := cell_kept u1.cell (grownBy_putObj' _ D (.deferred none)) (fun r e => by cases e; exact ⟨_, hK', rfl⟩)
    have e2 := cell_kept u2.cell (grownBy_putObj' _ D (.deferred none)) (fun r e => by cases e; exact ⟨_, hK', rfl⟩)
    have e3 := cell_kept u3.cell (grownBy_putObj' _ D (.deferred none)) (fun r e => by cases e; exact ⟨_, hK', rfl⟩)
    refine ⟨.tuple #[.int .i64 0, .bool false, .int .i64 0], ?_, rfl, (bel_put _ _ _ (bel_put _ _ _ (bel_put _ _ _ hB (by omega)) (by omega)) (by omega)).trans (belowK_b (w := w) (Nat.le_refl _) _ D _ _ (by omega) hK' rfl rfl)⟩
    simp [results, Tryz.results17, go_sem, e1, e2, e3]
  case stop =>
    rintro D c pre W hD hpre ⟨⟨⟨v1, v2, v3⟩, rfl, x, rfl⟩, hB⟩ hK
    gi_wp2
    refine ⟨by simp, .inl ⟨_, _, rfl, run_takeDeferred hK, ?_⟩⟩
    have e1 := cell_kept v1.cell (grownBy_putObj' _ D (.deferred none)) (fun r e => by cases e; exact ⟨_, hK, rfl⟩)
    have e2 := cell_kept v2.cell (grownBy_putObj' _ D (.deferred none)) (fun r e => by cases e; exact ⟨_, hK, rfl⟩)
    have e3 := cell_kept v3.cell (grownBy_putObj' _ D (.deferred none)) (fun r e => by cases e; exact ⟨_, hK, rfl⟩)
    obtain ⟨F', rfl⟩ : ∃ F', F = x :: F' := by
      obtain ⟨s, hs⟩ := hpre
      exact ⟨s, hs.symm⟩
    refine ⟨.tuple #[.int .i64 x, .bool true, .int .i64 0], ?_, rfl, hB.trans (belowK_b (w := w) (Nat.le_refl _) W D _ _ (by omega) hK rfl rfl)⟩
    simp [results, Tryz.results17, go_sem, e1, e2, e3]
end
theorem rem_ex (q : Pl.P) (a b : Int) : ∃ F, Tms q.K b ((b - a + 1).toNat + 100000) a F := Pl.tms_ex q.K b _ a
theorem pnext_any (q : Pl.P) (hx : q.x.Bd) (v : Value) (t y : Int) (p : Bool) (r : Int) (hr : Pl.NextR q t y p r) (w : World) (L : LayM w) (h : Bo.RowS w v q.l) :
    Calls Tryz.prog 17 #[.agg #[.int .i64 q.k, .int .u64 q.x.a0, .int .u64 q.x.a1, .int .u64 q.x.a2, .int .u64 q.x.a3, .int .u64 q.x.a4, .int .u64 q.x.a5, .bool q.x.b3, .bool q.x.b5, .int .i64 q.z, .int .i64 q.s, .int .i64 q.p, .int .i64 q.c, v], .int .i64 t] w fun e w' => e = .returned (.tuple #[.int .i64 y, .bool p, .int .i64 r]) ∧ Below w.heap.size w w' := by
  obtain ⟨h1, ⟨z, rfl, rfl⟩ | ⟨rfl, o, ho, rfl, rfl⟩⟩ := hr
  · exact pnext_no q hx v t r h1.symm z w L h
  · obtain ⟨ok, ht⟩ := Pl.P.errT_zero.1 h1.symm
    obtain ⟨F, hF⟩ := rem_ex q (t + 1) 253402300799
    have e := ho.uniq (Pl.first_of hF (by omega))
    subst e
    exact callsIn_wide.1 (pnext_in 5 (by omega) q ok hx v t (ht t (by simp)) F (Pl.rem_start hF (by omega)) w L h)
end Go.Proofs.YtljackjcgfaanaaGreatDoor
/- plan's List. -/
namespace Go.Proofs.YtljackjcgfaanaaGreatDoor
open Go.ChangeShapes Go.RowKit Go.Shelf

/-- what the rounds of List keep: the list so far, in its box; how many are asked for -/
structure CT (w W0 : World) (m M : Nat) (mo : Int) (v : Value) (l : List Int) (W : World) : Prop where
  bv : Boxed W m 40 v
  rv : W.ownsRow W0.heap.size 2 1 v l.length (l.map (.int .i64 ·))
  bm : Boxed W M 3 (.int .i64 mo)
  be : Below w.heap.size w W
  sz : W0.heap.size ≤ W.heap.size
theorem CT.grow {w W0 : World} {m M : Nat} {mo : Int} {v : Value} {l : List Int} {base : Nat} {A B : World} {row : Option Nat} (h : CT w W0 m M mo v l A) (hb : w.heap.size ≤ base) (hg : A.grownBy B row) (hr : ∀ r, row = some r → base ≤ r ∧ ∃ o : Obj, A.heap[r]? = some o ∧ o.isCells = false) : CT w W0 m M mo v l B := by
  have hr' : ∀ r, row = some r → ∃ o : Obj, A.heap[r]? = some o ∧ o.isCells = false := fun r e => (hr r e).2
  have bx : ∀ {b t v}, Boxed A b t v → Boxed B b t v := fun {b t v} q => boxed_own b t (fun (_ : Unit) => v) () A B row q hg hr'
  exact ⟨bx h.bv, h.rv.kept hg (Bo.row_free h.rv hr'), bx h.bm, ownFrom_below (β := Unit) (Nat.le_refl _) hb () A B row h.be hg hr, Nat.le_trans h.sz hg.size⟩
theorem CT.below {w W0 : World} {m M : Nat} {mo : Int} {v : Value} {l : List Int} {A B : World} (h : CT w W0 m M mo v l A) (hb : Below A.heap.size A B) : CT w W0 m M mo v l B :=
  h.grow (row := none) (Nat.le_refl _) ⟨hb.os, hb.tape, hb.output, hb.size, fun k hk _ => hb.block k hk⟩ (fun _ e => by cases e)
/-- a store into the caller's own box, behind an append to the caller's own row -/
theorem Ki.append {own : Nat → Prop} {n₀ base : Nat} {W w1 : World} {B : Nat} {v v' : Value} {k : Nat} {xs : List Value} {tmp : Obj} (hB : own B) (hb : n₀ ≤ base) (hrow : W.ownsRow base 2 1 v k xs)
    (hgrow : (W.alloc tmp).grownBy w1 v.ownBlock) (hn : n₀ ≤ W.heap.size) : Ki own n₀ W (w1.setCell ⟨B, 0, none⟩ v') := by
  have hs := (grownBy_setCell' w1 B v').size
  have hs2 := hgrow.size
  rw [World.size_alloc] at hs2
  refine ⟨by omega, fun b hb1 ho => ?_, fun b c t f ho q ht => ?_⟩
  · rw [Below.heap_setCell _ _ _ b (fun e => ho (by rw [e]; exact hB))]
    rw [hgrow.block b (by rw [World.size_alloc]; omega) ?_]
    · exact ((Below.refl _ W).alloc (Nat.le_refl _) tmp).block b (by omega)
    · rcases hrow.2 with ⟨rfl, _⟩ | ⟨g, cap, cur, rfl, hg, _⟩
      · simp [Value.ownBlock]
      · intro e
        obtain rfl : b = g := by simpa [Value.ownBlock] using e
        omega
  · have hlt := (Array.getElem?_eq_some_iff.1 q).1
    rw [Below.heap_setCell _ _ _ b (fun e => ho (by rw [e]; exact hB))]
    rw [hgrow.block b (by rw [World.size_alloc]; omega) ?_]
    · exact (((Below.refl _ W).alloc (Nat.le_refl _) tmp).block b hlt).trans q
    · rcases hrow.2 with ⟨rfl, _⟩ | ⟨g, cap, cur, rfl, hg, hgb, _⟩
      · simp [Value.ownBlock]
      · intro e
        obtain rfl : b = g := by simpa [Value.ownBlock] using e
        rw [hgb] at q
        cases q
        exact ht rfl
theorem CT.append {w W0 W w1 : World} {m M : Nat} {mo : Int} {v v' : Value} {l : List Int} {o : Obj} {x : Int} (h : CT w W0 m M mo v l W) (hm : m < W0.heap.size) (hw : w.heap.size ≤ m) (hM : M ≠ m)
    (hown : w1.ownsRow W0.heap.size 2 1 v' (l.length + 1) (l.map (.int .i64 ·) ++ [.int .i64 x])) (hg : (W.alloc o).grownBy w1 v.ownBlock) :
    CT w W0 m M mo v' (l ++ [x]) (w1.setCell ⟨m, 0, none⟩ v') ∧ KeepsOthers W (w1.setCell ⟨m, 0, none⟩ v') ∧ Ki (fun b => b = m) W0.heap.size W (w1.setCell ⟨m, 0, none⟩ v') ∧ w1.cell? ⟨m, 0, none⟩ = some v ∧ w1.frozen? ⟨m, 0, none⟩ = false ∧ w1.cell? ⟨M, 0, none⟩ = some (.int .i64 mo) := by
  have b1 : Boxed w1 M 3 (.int .i64 mo) := (h.bm.alloc o).kept hg (h.bm.not_row (by decide) h.rv)
  have hs := h.sz
  have q := h.bv.appended (n₀ := w.heap.size) (by decide) (ownsRow_base h.rv (by omega)) h.be.size hw (ownsRow_base hown (by omega)) hg
  have kt := Ki.append (v' := v') (own := fun b => b = m) (B := m) rfl (Nat.le_refl _) h.rv hg hs
  refine ⟨⟨q.2.1, ?_, b1.other hM _, h.be.trans q.2.2.2.2, by have := kt.size; omega⟩, q.2.2.2.1, kt, q.1.cell, q.1.frozen, b1.cell⟩
  have r1 := hown.kept (grownBy_setCell' w1 m v') (.inr (q.1.not_row (by decide) hown).symm)
  rw [List.map_append, List.length_append]
  simpa using r1
theorem list_boxes (w : World) (cs : List Value) (tp : TypeId) (v1 : Value) (t1 : TypeId) (o : Obj) :
    Boxed (((w.alloc (.cells cs.toArray tp)).alloc (.cells #[v1] t1)).alloc o) (w.heap.size + 1) t1 v1 ∧ Row (((w.alloc (.cells cs.toArray tp)).alloc (.cells #[v1] t1)).alloc o) w.heap.size tp cs ∧ Below w.heap.size w (((w.alloc (.cells cs.toArray tp)).alloc (.cells #[v1] t1)).alloc o) := by
  refine ⟨?_, ((Row.new w cs tp).alloc (.cells #[v1] t1)).alloc o, (((Below.refl _ w).alloc (Nat.le_refl _) _).alloc (by simp) _).alloc (by simp; omega) _⟩
  have := (Boxed.new (w.alloc (.cells cs.toArray tp)) t1 v1).alloc o
  rwa [World.size_alloc] at this
set_option maxRecDepth 100000 in
set_option maxHeartbeats 4000000 in
theorem plist_no (q : Pl.P) (hx : q.x.Bd) (v : Value) (a b mo : Int) (r : Int) (hr : q.errT [a, b] = r) (z : r ≠ 0 ∨ mo < 1) (w : World) (L : LayM w) (h : Bo.RowS w v q.l) :
    Calls Tryz.prog 22 #[.agg #[.int .i64 q.k, .int .u64 q.x.a0, .int .u64 q.x.a1, .int .u64 q.x.a2, .int .u64 q.x.a3, .int .u64 q.x.a4, .int .u64 q.x.a5, .bool q.x.b3, .bool q.x.b5, .int .i64 q.z, .int .i64 q.s, .int .i64 q.p, .int .i64 q.c, v], .int .i64 a, .int .i64 b, .int .i64 mo] w fun e w' => e = .returned (.tuple #[.slice none 0 0, .int .i64 r]) ∧ Below w.heap.size w w' := by
  obtain ⟨b1, b2, b3⟩ := list_boxes w (plL q v) 29 (.int .i64 mo) 3 (.cells #[.int .i64 a, .int .i64 b] 2)
  have R5 := row_second (w.alloc (.cells (plL q v).toArray 29)) (.cells #[.int .i64 mo] 3) [.int .i64 a, .int .i64 b] 2
  have HB := Lib.hid b3
  have HX := Lib.hid b1
  have LL := Lib.hid (L.below b3)
  have HS := Lib.hid (h.below b3)
  have RR := Lib.hid R5
  simp only [World.size_alloc, plL] at HB HX LL HS RR
  have CK := Lib.hid (fun W L h R => pcheck_any q hx v (w.heap.size + 1 + 1) [a, b] (by simp) r hr W L h R)
  clear hx hr L h b1 b2 b3 R5
  obtain ⟨d, hd⟩ : ∃ d, (r != 0) = d := ⟨_, rfl⟩
  cases d with
  | true =>
    clear z
    go_enter Tryz.func22, Tryz.ntmps22
    go_wp2_with fail
    refine (CK.out _ LL.out HS.out RR.out).mono ?_
    rintro e w1 ⟨rfl, hb1⟩
    have B2 := Lib.hid (HB.out.trans (hb1.mono HB.out.size))
    clear hb1
    go_wp2_with fail
    go_ret2
    exact ⟨rfl, B2.out⟩
  | false =>
    obtain e1 : decide (mo < 1) = true := by rcases z with k | k; exact absurd k (by simpa using hd); exact decide_eq_true k
    clear z
    go_enter Tryz.func22, Tryz.ntmps22
    go_wp2_with fail
    refine (CK.out _ LL.out HS.out RR.out).mono ?_
    rintro e w1 ⟨rfl, hb1⟩
    have B2 := Lib.hid (HB.out.trans (hb1.mono HB.out.size))
    have c1 := (boxed_below HX.out hb1).cell
    clear hb1
    go_wp2_with fail
    go_ret2
    exact ⟨rfl, B2.out⟩

section
attribute [local go_sem] Oper.semAt_some
set_option maxRecDepth 100000 in
set_option maxHeartbeats 8000000 in
theorem plist_in (n : Nat) (hn : 5 ≤ n) (q : Pl.P) (ok : q.Ok) (hx : q.x.Bd) (v : Value) (a b mo : Int) (ha : Pl.vt a) (hb : Pl.vt b) (hmo : 1 ≤ mo) (F : List Int) (hF : Pl.Rem q.K b F [] a) (w : World) (L : LayM w) (h : Bo.RowS w v q.l) :
    CallsIn Fence.wide n Tryz.prog 22 #[.agg #[.int .i64 q.k, .int .u64 q.x.a0, .int .u64 q.x.a1, .int .u64 q.x.a2, .int .u64 q.x.a3, .int .u64 q.x.a4, .int .u64 q.x.a5, .bool q.x.b3, .bool q.x.b5, .int .i64 q.z, .int .i64 q.s, .int .i64 q.p, .int .i64 q.c, v], .int .i64 a, .int .i64 b, .int .i64 mo] w fun e w' => ∃ u, e = .returned (.tuple #[u, .int .i64 0]) ∧ OwnT w u (F.take (min mo 100000).toNat) w' := by
  have h1 : 1 ≤ n := by omega
  obtain ⟨z0, hi, hz0, hz1, hz2⟩ := info_parts infoT
  have hr : q.errT [a, b] = 0 := Pl.P.errT_zero.2 ⟨ok, fun u hu => by rcases (by simpa using hu : u = a ∨ u = b) with rfl | rfl; exact ha; exact hb⟩
  obtain ⟨b1, b2, b3⟩ := list_boxes w (plL q v) 29 (.int .i64 mo) 3 (.cells #[.int .i64 a, .int .i64 b] 2)
  have R5 := row_second (w.alloc (.cells (plL q v).toArray 29)) (.cells #[.int .i64 mo] 3) [.int .i64 a, .int .i64 b] 2
  have HB := Lib.hid b3
  have HX := Lib.hid (And.intro b1 b2)
  have LL := Lib.hid (L.below b3)
  have HS := Lib.hid (h.below b3)
  have RR := Lib.hid R5
  simp only [World.size_alloc, plL] at HB HX LL HS RR
  have CK := Lib.hid (fun W L h R => pcheck_any q hx v (w.heap.size + 1 + 1) [a, b] (by simp) 0 hr W L h R)
  have e1 : decide (mo < 1) = false := by rw [decide_eq_false_iff_not]; omega
  have ST := Lib.hid (fun own n hn Bp Ba Bb w0 hV hown op oa ob rp ca cb => times_stops own n hn Bp Ba Bb q ok hx v a b ha.1 (by have := ha.2; omega) hb.2 F hF w w0 hV hown h L op oa ob rp ca cb)
  obtain ⟨lim, hlim⟩ : ∃ lim : Nat, min mo 100000 = lim := ⟨(min mo 100000).toNat, by omega⟩
  have LM := Lib.hid (show 1 ≤ lim ∧ lim ≤ 100000 by omega)
  have etn : (min mo 100000).toNat = lim := by omega
  rw [etn]
  have HLIM := Lib.hid hlim
  clear hx hr ok ha hb hF L h b1 b2 b3 R5 hmo etn
  refine callsIn_of_wp_marks Tryz.func22 rfl trivial ?_ rfl
  simp only [Tryz.ntmps22, List.size_toArray, List.length_cons, List.length_nil, Nat.reduceAdd, Nat.reduceSub, Array.replicate_succ, Array.replicate_zero, List.push_toArray, List.append_toArray, List.nil_append, List.cons_append]
  gi_wp2_with fail
  refine ⟨trivial, ?_⟩
  refine (callsIn_wide.2 (CK.out _ LL.out HS.out RR.out)).mono ?_
  rintro e w1 ⟨rfl, hb1⟩
  have X1 := boxed_below HX.out.1 hb1
  have RP := HX.out.2.below hb1
  have B1 := Lib.hid (HB.out.trans (hb1.mono HB.out.size))
  obtain ⟨c0, c1, c2, c3, c4, c5, c6, c7, c8, c9, c10, c11, c12, c13⟩ := plRow RP
  have cm := X1.cell
  have sz : w.heap.size + 1 + 1 < w1.heap.size := by have := hb1.size; simp at this; omega
  have z1 : w.heap.size < w1.heap.size := by omega
  have z2 : w.heap.size + 1 < w1.heap.size := by omega
  clear hb1 RR HS LL HX CK
  gi_wp2_with fail
  refine ⟨trivial, ?_⟩
  refine (callsIn_wide.2 (times_any q v a b _)).mono ?_
  rintro e w2 ⟨rfl, hw2⟩
  obtain ⟨m, hm⟩ : ∃ m, w1.heap.size = m := ⟨_, rfl⟩
  have x0 := (((Boxed.new w1 40 (.slice none 0 0)).alloc (.cells #[.int .i64 q.k, .int .u64 q.x.a0, .int .u64 q.x.a1, .int .u64 q.x.a2, .int .u64 q.x.a3, .int .u64 q.x.a4, .int .u64 q.x.a5, .bool q.x.b3, .bool q.x.b5, .int .i64 q.z, .int .i64 q.s, .int .i64 q.p, .int .i64 q.c, v] 29)).alloc (.cells #[.int .i64 a] 2)).alloc (.cells #[.int .i64 b] 2)
  have y1 := ((Boxed.new ((w1.alloc (.cells #[.slice none 0 0] 40)).alloc (.cells #[.int .i64 q.k, .int .u64 q.x.a0, .int .u64 q.x.a1, .int .u64 q.x.a2, .int .u64 q.x.a3, .int .u64 q.x.a4, .int .u64 q.x.a5, .bool q.x.b3, .bool q.x.b5, .int .i64 q.z, .int .i64 q.s, .int .i64 q.p, .int .i64 q.c, v] 29)) 2 (.int .i64 a)).alloc (.cells #[.int .i64 b] 2))
  have y2 := Boxed.new (((w1.alloc (.cells #[.slice none 0 0] 40)).alloc (.cells #[.int .i64 q.k, .int .u64 q.x.a0, .int .u64 q.x.a1, .int .u64 q.x.a2, .int .u64 q.x.a3, .int .u64 q.x.a4, .int .u64 q.x.a5, .bool q.x.b3, .bool q.x.b5, .int .i64 q.z, .int .i64 q.s, .int .i64 q.p, .int .i64 q.c, v] 29)).alloc (.cells #[.int .i64 a] 2)) 2 (.int .i64 b)
  have y0 : Row ((((w1.alloc (.cells #[.slice none 0 0] 40)).alloc (.cells #[.int .i64 q.k, .int .u64 q.x.a0, .int .u64 q.x.a1, .int .u64 q.x.a2, .int .u64 q.x.a3, .int .u64 q.x.a4, .int .u64 q.x.a5, .bool q.x.b3, .bool q.x.b5, .int .i64 q.z, .int .i64 q.s, .int .i64 q.p, .int .i64 q.c, v] 29)).alloc (.cells #[.int .i64 a] 2)).alloc (.cells #[.int .i64 b] 2)) (w1.alloc (.cells #[.slice none 0 0] 40)).heap.size 29 (plL q v) := ((Row.new _ (plL q v) 29).alloc _).alloc _
  have BB : Below w1.heap.size w1 w2 := by rw [hw2]; exact ((((Below.refl _ w1).alloc (Nat.le_refl _) _).alloc (by simp) _).alloc (by simp; omega) _).alloc (by simp; omega) _
  have sz2 : w2.heap.size = w1.heap.size + 1 + 1 + 1 + 1 := by rw [hw2]; simp
  rw [← hw2] at x0 y0 y1 y2
  simp only [World.size_alloc, hm] at x0 y0 y1 y2
  have Y1 := boxed_below X1 BB
  have BW : Below w.heap.size w w2 := B1.out.trans (BB.mono B1.out.size)
  simp only [World.size_alloc, hm]
  rw [hm] at sz sz2
  clear z1 z2 hw2 X1 RP c0 c1 c2 c3 c4 c5 c6 c7 c8 c9 c10 c11 c12 c13 cm hm BB
  gi_wp2_with fail
  have sz3 : m + 1 + 1 + 1 < w2.heap.size := by omega
  clear sz2
  have oown : ∀ b, b = m → w.heap.size ≤ b ∧ b < w2.heap.size := fun b k => by omega
  apply wpIn_rangeFunc_ownG rfl h1 (gf := 59) (lb := #[.pointer (some ⟨m + 1, 0, none⟩), .pointer (some ⟨m + 1 + 1, 0, none⟩), .pointer (some ⟨m + 1 + 1 + 1, 0, none⟩)]) rfl trivial (enters_of Tryz.func59 (by kernel_rfl) rfl)
    (ST.out (fun b => b = m) (n - 1) (by omega) (m + 1) (m + 1 + 1) (m + 1 + 1 + 1) w2 BW oown (by omega) (by omega) (by omega) y0 y1 y2) Ki.trans (Ki.book (Nat.le_refl _)) (Below.refl _ _) (fun _ => rfl)
    (fun pre W => ∃ u, CT w w2 m (w.heap.size + 1) mo u pre W ∧ pre.length < lim)
    (fun c pre W => ∃ u, CT w w2 m (w.heap.size + 1) mo u pre W ∧ c = .exit 0 ∧ pre.length = lim)
    (fun pre A B row ⟨u, h, k⟩ hg hr => ⟨u, h.grow (by omega) hg hr, k⟩)
    (fun c pre A B row ⟨u, h, k⟩ hg hr => ⟨u, h.grow (by omega) hg hr, k⟩)
    ⟨_, ⟨x0, World.ownsRow_nil _ _ _ _, Y1, BW, Nat.le_refl _⟩, by have := LM.out; simp; omega⟩
    _ ?assign ?body ?done ?stop
  case assign =>
    intro l x W K hK
    simp only [tmV]
    gi_wp2
    exact hK
  case body =>
    rintro l pre x W ⟨u, h, hp⟩ _
    have SW := Lib.hid h
    have cv := h.bv.cell
    have hz := h.sz
    have HP := Lib.hid hp
    have hl0 := HLIM.out
    clear h hp
    by_cases full : pre.length + 1 = lim
    · have t1 : ((pre.length : Int) + 1 == (lim : Int)) = true := by rw [beq_iff_eq]; omega
      have FU := Lib.hid full
      clear full
      gi_wp2_with (gi_at_builtin; refine wpListIn_append_own _ rfl _ _ 40 rfl w2.heap.size 2 z0 (.int .i64 0) 1 8 Tryz.underlying40 hi hz0 hz1 hz2 rfl (by decide) _ pre.length (pre.map (.int .i64 ·)) rfl (SW.out.rv.alloc _) ⟨W.heap.size, 0, none⟩ 1 1 [.int .i64 x] rfl rfl (Bo.cells_new _ _ rfl [.int .i64 x] _) (by simp [Value.oneCell']) (by simp [maxLen]; have := LM.out; have := HP.out; omega) (by have := LM.out; have := HP.out; omega) (by simp; omega) ?_; intro v' W1 hown' hgrow _; obtain ⟨g', cap', rfl⟩ := ownsRow_succ hown'; have hq := Lib.hid (SW.out.append (x := x) (by omega) (by omega) (by omega) hown' hgrow); have k4 := hq.out.2.2.2.1; have k5 := hq.out.2.2.2.2.1; have k6 := hq.out.2.2.2.2.2; have k7 := hq.out.1.bm.cell; have k8 := hq.out.1.bv.cell)
      exact ⟨hq.out.2.1.from _, _, hq.out.1, rfl, by rw [List.length_append]; exact FU.out⟩
    · have t1 : ((pre.length : Int) + 1 == (lim : Int)) = false := by rw [beq_eq_false_iff_ne]; omega
      have FU := Lib.hid full
      clear full
      gi_wp2_with (gi_at_builtin; refine wpListIn_append_own _ rfl _ _ 40 rfl w2.heap.size 2 z0 (.int .i64 0) 1 8 Tryz.underlying40 hi hz0 hz1 hz2 rfl (by decide) _ pre.length (pre.map (.int .i64 ·)) rfl (SW.out.rv.alloc _) ⟨W.heap.size, 0, none⟩ 1 1 [.int .i64 x] rfl rfl (Bo.cells_new _ _ rfl [.int .i64 x] _) (by simp [Value.oneCell']) (by simp [maxLen]; have := LM.out; have := HP.out; omega) (by have := LM.out; have := HP.out; omega) (by simp; omega) ?_; intro v' W1 hown' hgrow _; obtain ⟨g', cap', rfl⟩ := ownsRow_succ hown'; have hq := Lib.hid (SW.out.append (x := x) (by omega) (by omega) (by omega) hown' hgrow); have k4 := hq.out.2.2.2.1; have k5 := hq.out.2.2.2.2.1; have k6 := hq.out.2.2.2.2.2; have k7 := hq.out.1.bm.cell; have k8 := hq.out.1.bv.cell)
      exact ⟨hq.out.2.1.from _, hq.out.2.2.1, _, hq.out.1, by rw [List.length_append]; have := FU.out; have := HP.out; simp; omega⟩
  case done =>
    rintro D ys W hD hys ⟨u, h, hp⟩ hK
    have cv := h.bv.cell
    have SW := Lib.hid h
    have HP := Lib.hid hp
    clear h hp
    gi_wp2
    refine ⟨by simp, .inl ⟨_, _, rfl, run_takeDeferred hK, ?_⟩⟩
    have rv := ownsRow_putObj (ownsRow_base SW.out.rv (base' := w.heap.size) (by omega)) (.deferred none) hK rfl
    have hb4 := SW.out.be.trans (belowK_b (w := w) (Nat.le_refl _) W D _ (.deferred none) (by omega) hK rfl rfl)
    refine ⟨_, results_tmp2 rfl _ _ _, u, rfl, ?_⟩
    rw [← hys, List.take_of_length_le (by have := HP.out; omega)]
    exact ⟨rv, hb4⟩
  case stop =>
    rintro D c pre W hD hpre ⟨u, h, rfl, hp⟩ hK
    have cv := h.bv.cell
    have SW := Lib.hid h
    have HP := Lib.hid hp
    clear h hp
    gi_wp2
    refine ⟨by simp, .inl ⟨_, _, rfl, run_takeDeferred hK, ?_⟩⟩
    have rv := ownsRow_putObj (ownsRow_base SW.out.rv (base' := w.heap.size) (by omega)) (.deferred none) hK rfl
    have hb4 := SW.out.be.trans (belowK_b (w := w) (Nat.le_refl _) W D _ (.deferred none) (by omega) hK rfl rfl)
    refine ⟨_, results_tmp2 rfl _ _ _, u, rfl, ?_⟩
    have e : F.take lim = pre := by
      obtain ⟨s, rfl⟩ := hpre
      rw [← HP.out, List.take_left]
    rw [e]
    exact ⟨rv, hb4⟩
end
theorem plist_any (q : Pl.P) (hx : q.x.Bd) (v : Value) (a b mo : Int) (l : List Int) (r : Int) (hr : Pl.ListR q a b mo l r) (w : World) (L : LayM w) (h : Bo.RowS w v q.l) :
    Calls Tryz.prog 22 #[.agg #[.int .i64 q.k, .int .u64 q.x.a0, .int .u64 q.x.a1, .int .u64 q.x.a2, .int .u64 q.x.a3, .int .u64 q.x.a4, .int .u64 q.x.a5, .bool q.x.b3, .bool q.x.b5, .int .i64 q.z, .int .i64 q.s, .int .i64 q.p, .int .i64 q.c, v], .int .i64 a, .int .i64 b, .int .i64 mo] w fun e w' => ∃ u, e = .returned (.tuple #[u, .int .i64 r]) ∧ OwnT w u l w' := by
  obtain ⟨h1, ⟨z, rfl⟩ | ⟨rfl, hl⟩⟩ := hr
  · exact (plist_no q hx v a b mo r h1.symm (.inl z) w L h).mono fun e w' ⟨e1, e2⟩ => ⟨_, e1, World.ownsRow_nil _ _ _ _, e2⟩
  · by_cases m1 : mo < 1
    · have e0 : (min mo 100000).toNat = 0 := by omega
      rw [e0] at hl
      obtain rfl : l = [] := hl
      exact (plist_no q hx v a b mo 0 h1.symm (.inr m1) w L h).mono fun e w' ⟨e1, e2⟩ => ⟨_, e1, World.ownsRow_nil _ _ _ _, e2⟩
    · obtain ⟨ok, ht⟩ := Pl.P.errT_zero.1 h1.symm
      obtain ⟨F, hF⟩ := rem_ex q a b
      have e := (Pl.tms_take (min mo 100000).toNat (by omega) hF).uniq hl
      rw [← e]
      exact callsIn_wide.1 (plist_in 5 (by omega) q ok hx v a b mo (ht a (by simp)) (ht b (by simp)) (by omega) F (Pl.rem_start hF (by omega)) w L h)
end Go.Proofs.YtljackjcgfaanaaGreatDoor
/- plan's Count. -/
namespace Go.Proofs.YtljackjcgfaanaaGreatDoor
open Go.ChangeShapes Go.RowKit Go.Shelf

theorem count_start (w : World) (q : Pl.P) (v : Value) (a b : Int) (L : LayM w) (h : Bo.RowS w v q.l) : PB w w.heap.size q v ((w.alloc (.cells #[.int .i64 q.k, .int .u64 q.x.a0, .int .u64 q.x.a1, .int .u64 q.x.a2, .int .u64 q.x.a3, .int .u64 q.x.a4, .int .u64 q.x.a5, .bool q.x.b3, .bool q.x.b5, .int .i64 q.z, .int .i64 q.s, .int .i64 q.p, .int .i64 q.c, v] 29)).alloc (.cells #[.int .i64 a, .int .i64 b] 2)) ∧ Row ((w.alloc (.cells #[.int .i64 q.k, .int .u64 q.x.a0, .int .u64 q.x.a1, .int .u64 q.x.a2, .int .u64 q.x.a3, .int .u64 q.x.a4, .int .u64 q.x.a5, .bool q.x.b3, .bool q.x.b5, .int .i64 q.z, .int .i64 q.s, .int .i64 q.p, .int .i64 q.c, v] 29)).alloc (.cells #[.int .i64 a, .int .i64 b] 2)) (w.heap.size + 1) 2 ([a, b].map (.int .i64 ·)) :=
  ⟨(PB.start L h).alloc _, row_second w _ [.int .i64 a, .int .i64 b] _⟩
set_option maxRecDepth 100000 in
set_option maxHeartbeats 4000000 in
theorem pcount_no (q : Pl.P) (hx : q.x.Bd) (v : Value) (a b : Int) (r : Int) (hr : q.errT [a, b] = r) (z : r ≠ 0 ∨ b < a) (w : World) (L : LayM w) (h : Bo.RowS w v q.l) :
    Calls Tryz.prog 25 #[.agg #[.int .i64 q.k, .int .u64 q.x.a0, .int .u64 q.x.a1, .int .u64 q.x.a2, .int .u64 q.x.a3, .int .u64 q.x.a4, .int .u64 q.x.a5, .bool q.x.b3, .bool q.x.b5, .int .i64 q.z, .int .i64 q.s, .int .i64 q.p, .int .i64 q.c, v], .int .i64 a, .int .i64 b] w fun e w' => e = .returned (.tuple #[.int .i64 0, .int .i64 r]) ∧ Below w.heap.size w w' := by
  obtain ⟨q1, q2⟩ := count_start w q v a b L h
  have Q := Lib.hid q1
  have RW := Lib.hid q2
  have CK := Lib.hid (fun W L h R => pcheck_any q hx v (w.heap.size + 1) [a, b] (by simp) r hr W L h R)
  clear hx hr L h q1 q2
  obtain ⟨d, hd⟩ : ∃ d, (r != 0) = d := ⟨_, rfl⟩
  cases d with
  | true =>
    clear z
    go_enter Tryz.func25, Tryz.ntmps25
    go_wp2_with fail
    refine (CK.out _ Q.out.lay Q.out.sp RW.out).mono ?_
    rintro e w1 ⟨rfl, hb1⟩
    have Q1 := Lib.hid (Q.out.next hb1)
    clear hb1
    go_wp2_with fail
    go_ret2
    exact ⟨rfl, Q1.out.below⟩
  | false =>
    obtain e1 : decide (b < a) = true := by rcases z with k | k; exact absurd k (by simpa using hd); exact decide_eq_true k
    clear z
    go_enter Tryz.func25, Tryz.ntmps25
    go_wp2_with fail
    refine (CK.out _ Q.out.lay Q.out.sp RW.out).mono ?_
    rintro e w1 ⟨rfl, hb1⟩
    have Q1 := Lib.hid (Q.out.next hb1)
    clear hb1
    go_wp2_with fail
    go_ret2
    exact ⟨rfl, Q1.out.below⟩
section
attribute [local go_sem] Oper.semAt_some
set_option maxRecDepth 100000 in
set_option maxHeartbeats 8000000 in
theorem pcount_in (n : Nat) (hn : 5 ≤ n) (q : Pl.P) (ok : q.Ok) (hx : q.x.Bd) (v : Value) (a b : Int) (ha : Pl.vt a) (hb : Pl.vt b) (ab : a ≤ b) (w : World) (L : LayM w) (h : Bo.RowS w v q.l) :
    CallsIn Fence.wide n Tryz.prog 25 #[.agg #[.int .i64 q.k, .int .u64 q.x.a0, .int .u64 q.x.a1, .int .u64 q.x.a2, .int .u64 q.x.a3, .int .u64 q.x.a4, .int .u64 q.x.a5, .bool q.x.b3, .bool q.x.b5, .int .i64 q.z, .int .i64 q.s, .int .i64 q.p, .int .i64 q.c, v], .int .i64 a, .int .i64 b] w fun e w' => e = .returned (.tuple #[.int .i64 (q.cnt a b : Nat), .int .i64 0]) ∧ Below w.heap.size w w' := by
  have h1 : 1 ≤ n := by omega
  obtain ⟨i, hi, hk⟩ := P_kind ok
  have hr : q.errT [a, b] = 0 := Pl.P.errT_zero.2 ⟨ok, fun u hu => by rcases (by simpa using hu : u = a ∨ u = b) with rfl | rfl; exact ha; exact hb⟩
  obtain ⟨q1, q2⟩ := count_start w q v a b L h
  have Q := Lib.hid q1
  have RW := Lib.hid q2
  have CK := Lib.hid (fun W L h R => pcheck_any q hx v (w.heap.size + 1) [a, b] (by simp) 0 hr W L h R)
  have e1 : decide (b < a) = false := by rw [decide_eq_false_iff_not]; omega
  have ix := kind_index i hi
  have i0 : (0 : Int) ≤ (i : Int) := by omega
  have i3 : (i : Int) < 3 := by omega
  have CF := Lib.hid (fun a b ha hb W L h => cntF_any i hi q hk ok hx v a b ha hb W L h)
  have KE := Lib.hid (fun W => kinds_exact W)
  have EG := eg_cntF hi
  obtain ⟨m, g, hres⟩ := Bk.resR_ex [(a, b)] q.l 3
  have oks := Bk.okS_one ha hb ab
  obtain rfl : g = 0 := hres.1.trans (Bk.err2_zero.2 ⟨Bk.errL_zero.2 ⟨by simp, oks⟩, ok.spans⟩)
  have WO := Lib.hid (fun va vb W ha hb => Bo.without_any va vb [(a, b)] q.l m 0 hres W ha hb)
  have LM : m.length ≤ 256 := hres.len
  have CW := Lib.hid (Pl.cnt_without (B := q.T) hres.res)
  have OS := Lib.hid (hres.res.ok oks ok.few.2)
  have HK := Lib.hid hk
  clear hx hr ok ha hb ab L h q1 q2 hk hres oks hi
  refine callsIn_of_wp Tryz.func25 rfl trivial ?_ rfl
  simp only [Tryz.ntmps25, List.size_toArray, List.length_cons, List.length_nil, Nat.reduceAdd, Nat.reduceSub, Array.replicate_succ, Array.replicate_zero, List.push_toArray, List.append_toArray, List.nil_append, List.cons_append]
  gi_wp2_with fail
  refine ⟨trivial, ?_⟩
  refine (callsIn_wide.2 (CK.out _ Q.out.lay Q.out.sp RW.out)).mono ?_
  rintro e W ⟨rfl, hb1⟩
  have Q1 := Lib.hid (Q.out.next hb1)
  have c0 := Q1.out.cells.1
  rw [HK.out] at c0
  clear hb1
  gi_wp2_with fail
  -- REGION
  obtain ⟨Wd, hWd⟩ : ∃ Wd, ({ W with drawn := W.drawn + 1 } : World) = Wd := ⟨_, rfl⟩
  have BD : Hid (Below W.heap.size W Wd) := Lib.hid (by rw [← hWd]; exact Bo.below_drewN (Below.refl _ W) 1)
  have QD := Lib.hid (Q1.out.next BD.out)
  have c0d := QD.out.cells.1
  rw [HK.out] at c0d
  have bz := QD.out.lt
  have c0a : ∀ o, (Wd.alloc o).cell? ⟨w.heap.size, 0, none⟩ = some (.int .i64 (i : Int)) := fun o => (((Below.refl _ Wd).alloc (Nat.le_refl _) o).cell (p := ⟨w.heap.size, 0, none⟩) bz).trans c0d
  have c0b : ∀ o o', ((Wd.alloc o).alloc o').cell? ⟨w.heap.size, 0, none⟩ = some (.int .i64 (i : Int)) := fun o o' => ((((Below.refl _ Wd).alloc (Nat.le_refl _) o).alloc (by simp) o').cell (p := ⟨w.heap.size, 0, none⟩) bz).trans c0d
  refine wpIn_mono (Q := fun e a2 w2 => e = .normal ∧ ∃ Bz, a2 = { tmps := #[.agg #[.int .i64 q.k, .int .u64 q.x.a0, .int .u64 q.x.a1, .int .u64 q.x.a2, .int .u64 q.x.a3, .int .u64 q.x.a4, .int .u64 q.x.a5, .bool q.x.b3, .bool q.x.b5, .int .i64 q.z, .int .i64 q.s, .int .i64 q.p, .int .i64 q.c, v], .int .i64 a, .int .i64 b, .pointer (some ⟨w.heap.size, 0, none⟩), undef, undef, .int .i64 0, .int .i64 0, .int .i64 0, .pointer (some ⟨Bz, 0, none⟩), undef, undef, undef, undef, undef, .agg #[.int .i64 q.k, .int .u64 q.x.a0, .int .u64 q.x.a1, .int .u64 q.x.a2, .int .u64 q.x.a3, .int .u64 q.x.a4, .int .u64 q.x.a5, .bool q.x.b3, .bool q.x.b5, .int .i64 q.z, .int .i64 q.s, .int .i64 q.p, .int .i64 q.c, v], .int .i64 a, .int .i64 b, .slice (some ⟨w.heap.size + 1, 0, none⟩) 2 2, .int .i64 0, .int .i64 0, .bool false, .bool false, .int .i64 a, .int .i64 b, .bool false, .bool false, undef, .agg #[.func (.func 64) #[] #[], .func (.func 65) #[] #[], .func (.func 66) #[] #[], .func (.func 67) #[] #[], .func (.func 68) #[] #[], .func (.func 72) #[] #[], .func (.func 74) #[] #[], .func (.func 76) #[] #[], .func (.func 78) #[] #[], .func (.func 80) #[] #[], .func (.func 82) #[] #[], .func (.func 84) #[] #[]], .pointer (some ⟨w.heap.size, 0, none⟩), .int .i64 (i : Int), .agg #[.func (.func (vF i)) #[] #[], .func (.func (hasF i)) #[] #[], .func (.func (nextF i)) #[] #[], .func (.func (cntF i)) #[] #[]], undef, undef, undef, undef, undef, undef, undef, undef, undef, undef, undef, undef, undef, undef, undef, undef, undef, undef, undef, undef, undef, undef, undef, undef, undef], defers := [] } ∧ Row w2 Bz 74 [.func (.func (vF i)) #[] #[], .func (.func (hasF i)) #[] #[], .func (.func (nextF i)) #[] #[], .func (.func (cntF i)) #[] #[]] ∧ Wd.heap.size ≤ Bz ∧ Below Wd.heap.size Wd w2) ?_ ?_
  · refine wpIn_region_any (by kernel_rfl) ?_
    rw [hWd]
    clear c0
    refine anyIn_cons (l := [0, 1, 4]) (by kernel_rfl) (by simp) ?_
    intro k hk
    obtain rfl | rfl | rfl : k = 0 ∨ k = 1 ∨ k = 4 := by simpa using hk
    · clear hk
      refine opIn_at rfl rfl ?_
      gi_wp2_with (refine ⟨trivial, ?_⟩; gi_at_call 43; refine (callsIn_wide.2 (KE.out _)).mono ?_; rintro e V' ⟨rfl, rfl⟩)
      refine anyIn_cons (l := [1, 4]) (by kernel_rfl) (by simp) ?_
      intro k hk
      obtain rfl | rfl : k = 1 ∨ k = 4 := by simpa using hk
      · clear hk
        refine opIn_at rfl rfl ?_
        gi_wp2
        refine anyIn_cons (l := [2, 4]) (by kernel_rfl) (by simp) ?_
        intro k hk
        obtain rfl | rfl : k = 2 ∨ k = 4 := by simpa using hk
        · clear hk
          refine opIn_at rfl rfl ?_
          gi_wp2
          refine anyIn_cons (l := [3, 4]) (by kernel_rfl) (by simp) ?_
          intro k hk
          obtain rfl | rfl : k = 3 ∨ k = 4 := by simpa using hk
          · clear hk
            refine opIn_at rfl rfl ?_
            gi_wp2
            refine anyIn_cons (l := [4]) (by kernel_rfl) (by simp) ?_
            intro k hk
            obtain rfl : k = 4 := by simpa using hk
            clear hk
            refine opIn_at rfl rfl ?_
            gi_wp2
            refine anyIn_cons (l := [5]) (by kernel_rfl) (by simp) ?_
            intro k hk
            obtain rfl : k = 5 := by simpa using hk
            clear hk
            refine opIn_at rfl rfl ?_
            gi_wp2
            exact anyIn_end (by kernel_rfl) ⟨rfl, Wd.heap.size + 1, rfl, row_second Wd _ [.func (.func (vF i)) #[] #[], .func (.func (hasF i)) #[] #[], .func (.func (nextF i)) #[] #[], .func (.func (cntF i)) #[] #[]] _, by omega, ((Below.refl _ _).alloc (Nat.le_refl _) _).alloc (by simp) _⟩
          · clear hk
            refine opIn_at rfl rfl ?_
            gi_wp2
            refine anyIn_cons (l := [3]) (by kernel_rfl) (by simp) ?_
            intro k hk
            obtain rfl : k = 3 := by simpa using hk
            clear hk
            refine opIn_at rfl rfl ?_
            gi_wp2
            refine anyIn_cons (l := [5]) (by kernel_rfl) (by simp) ?_
            intro k hk
            obtain rfl : k = 5 := by simpa using hk
            clear hk
            refine opIn_at rfl rfl ?_
            gi_wp2
            exact anyIn_end (by kernel_rfl) ⟨rfl, Wd.heap.size + 1, rfl, row_second Wd _ [.func (.func (vF i)) #[] #[], .func (.func (hasF i)) #[] #[], .func (.func (nextF i)) #[] #[], .func (.func (cntF i)) #[] #[]] _, by omega, ((Below.refl _ _).alloc (Nat.le_refl _) _).alloc (by simp) _⟩
        · clear hk
          refine opIn_at rfl rfl ?_
          gi_wp2
          refine anyIn_cons (l := [2]) (by kernel_rfl) (by simp) ?_
          intro k hk
          obtain rfl : k = 2 := by simpa using hk
          clear hk
          refine opIn_at rfl rfl ?_
          gi_wp2
          refine anyIn_cons (l := [3]) (by kernel_rfl) (by simp) ?_
          intro k hk
          obtain rfl : k = 3 := by simpa using hk
          clear hk
          refine opIn_at rfl rfl ?_
          gi_wp2
          refine anyIn_cons (l := [5]) (by kernel_rfl) (by simp) ?_
          intro k hk
          obtain rfl : k = 5 := by simpa using hk
          clear hk
          refine opIn_at rfl rfl ?_
          gi_wp2
          exact anyIn_end (by kernel_rfl) ⟨rfl, Wd.heap.size + 1, rfl, row_second Wd _ [.func (.func (vF i)) #[] #[], .func (.func (hasF i)) #[] #[], .func (.func (nextF i)) #[] #[], .func (.func (cntF i)) #[] #[]] _, by omega, ((Below.refl _ _).alloc (Nat.le_refl _) _).alloc (by simp) _⟩
      · clear hk
        refine opIn_at rfl rfl ?_
        gi_wp2
        refine anyIn_cons (l := [1]) (by kernel_rfl) (by simp) ?_
        intro k hk
        obtain rfl : k = 1 := by simpa using hk
        clear hk
        refine opIn_at rfl rfl ?_
        gi_wp2
        refine anyIn_cons (l := [2]) (by kernel_rfl) (by simp) ?_
        intro k hk
        obtain rfl : k = 2 := by simpa using hk
        clear hk
        refine opIn_at rfl rfl ?_
        gi_wp2
        refine anyIn_cons (l := [3]) (by kernel_rfl) (by simp) ?_
        intro k hk
        obtain rfl : k = 3 := by simpa using hk
        clear hk
        refine opIn_at rfl rfl ?_
        gi_wp2
        refine anyIn_cons (l := [5]) (by kernel_rfl) (by simp) ?_
        intro k hk
        obtain rfl : k = 5 := by simpa using hk
        clear hk
        refine opIn_at rfl rfl ?_
        gi_wp2
        exact anyIn_end (by kernel_rfl) ⟨rfl, Wd.heap.size + 1, rfl, row_second Wd _ [.func (.func (vF i)) #[] #[], .func (.func (hasF i)) #[] #[], .func (.func (nextF i)) #[] #[], .func (.func (cntF i)) #[] #[]] _, by omega, ((Below.refl _ _).alloc (Nat.le_refl _) _).alloc (by simp) _⟩
    · clear hk
      refine opIn_at rfl rfl ?_
      gi_wp2
      refine anyIn_cons (l := [0, 2, 4]) (by kernel_rfl) (by simp) ?_
      intro k hk
      obtain rfl | rfl | rfl : k = 0 ∨ k = 2 ∨ k = 4 := by simpa using hk
      · clear hk
        refine opIn_at rfl rfl ?_
        gi_wp2_with (refine ⟨trivial, ?_⟩; gi_at_call 43; refine (callsIn_wide.2 (KE.out _)).mono ?_; rintro e V' ⟨rfl, rfl⟩)
        refine anyIn_cons (l := [2, 4]) (by kernel_rfl) (by simp) ?_
        intro k hk
        obtain rfl | rfl : k = 2 ∨ k = 4 := by simpa using hk
        · clear hk
          refine opIn_at rfl rfl ?_
          gi_wp2
          refine anyIn_cons (l := [3, 4]) (by kernel_rfl) (by simp) ?_
          intro k hk
          obtain rfl | rfl : k = 3 ∨ k = 4 := by simpa using hk
          · clear hk
            refine opIn_at rfl rfl ?_
            gi_wp2
            refine anyIn_cons (l := [4]) (by kernel_rfl) (by simp) ?_
            intro k hk
            obtain rfl : k = 4 := by simpa using hk
            clear hk
            refine opIn_at rfl rfl ?_
            gi_wp2
            refine anyIn_cons (l := [5]) (by kernel_rfl) (by simp) ?_
            intro k hk
            obtain rfl : k = 5 := by simpa using hk
            clear hk
            refine opIn_at rfl rfl ?_
            gi_wp2
            exact anyIn_end (by kernel_rfl) ⟨rfl, Wd.heap.size + 1, rfl, row_second Wd _ [.func (.func (vF i)) #[] #[], .func (.func (hasF i)) #[] #[], .func (.func (nextF i)) #[] #[], .func (.func (cntF i)) #[] #[]] _, by omega, ((Below.refl _ _).alloc (Nat.le_refl _) _).alloc (by simp) _⟩
          · clear hk
            refine opIn_at rfl rfl ?_
            gi_wp2
            refine anyIn_cons (l := [3]) (by kernel_rfl) (by simp) ?_
            intro k hk
            obtain rfl : k = 3 := by simpa using hk
            clear hk
            refine opIn_at rfl rfl ?_
            gi_wp2
            refine anyIn_cons (l := [5]) (by kernel_rfl) (by simp) ?_
            intro k hk
            obtain rfl : k = 5 := by simpa using hk
            clear hk
            refine opIn_at rfl rfl ?_
            gi_wp2
            exact anyIn_end (by kernel_rfl) ⟨rfl, Wd.heap.size + 1, rfl, row_second Wd _ [.func (.func (vF i)) #[] #[], .func (.func (hasF i)) #[] #[], .func (.func (nextF i)) #[] #[], .func (.func (cntF i)) #[] #[]] _, by omega, ((Below.refl _ _).alloc (Nat.le_refl _) _).alloc (by simp) _⟩
        · clear hk
          refine opIn_at rfl rfl ?_
          gi_wp2
          refine anyIn_cons (l := [2]) (by kernel_rfl) (by simp) ?_
          intro k hk
          obtain rfl : k = 2 := by simpa using hk
          clear hk
          refine opIn_at rfl rfl ?_
          gi_wp2
          refine anyIn_cons (l := [3]) (by kernel_rfl) (by simp) ?_
          intro k hk
          obtain rfl : k = 3 := by simpa using hk
          clear hk
          refine opIn_at rfl rfl ?_
          gi_wp2
          refine anyIn_cons (l := [5]) (by kernel_rfl) (by simp) ?_
          intro k hk
          obtain rfl : k = 5 := by simpa using hk
          clear hk
          refine opIn_at rfl rfl ?_
          gi_wp2
          exact anyIn_end (by kernel_rfl) ⟨rfl, Wd.heap.size + 1, rfl, row_second Wd _ [.func (.func (vF i)) #[] #[], .func (.func (hasF i)) #[] #[], .func (.func (nextF i)) #[] #[], .func (.func (cntF i)) #[] #[]] _, by omega, ((Below.refl _ _).alloc (Nat.le_refl _) _).alloc (by simp) _⟩
      · clear hk
        refine opIn_at rfl rfl ?_
        gi_wp2
        refine anyIn_cons (l := [0, 4]) (by kernel_rfl) (by simp) ?_
        intro k hk
        obtain rfl | rfl : k = 0 ∨ k = 4 := by simpa using hk
        · clear hk
          refine opIn_at rfl rfl ?_
          gi_wp2_with (refine ⟨trivial, ?_⟩; gi_at_call 43; refine (callsIn_wide.2 (KE.out _)).mono ?_; rintro e V' ⟨rfl, rfl⟩)
          refine anyIn_cons (l := [3, 4]) (by kernel_rfl) (by simp) ?_
          intro k hk
          obtain rfl | rfl : k = 3 ∨ k = 4 := by simpa using hk
          · clear hk
            refine opIn_at rfl rfl ?_
            gi_wp2
            refine anyIn_cons (l := [4]) (by kernel_rfl) (by simp) ?_
            intro k hk
            obtain rfl : k = 4 := by simpa using hk
            clear hk
            refine opIn_at rfl rfl ?_
            gi_wp2
            refine anyIn_cons (l := [5]) (by kernel_rfl) (by simp) ?_
            intro k hk
            obtain rfl : k = 5 := by simpa using hk
            clear hk
            refine opIn_at rfl rfl ?_
            gi_wp2
            exact anyIn_end (by kernel_rfl) ⟨rfl, Wd.heap.size + 1, rfl, row_second Wd _ [.func (.func (vF i)) #[] #[], .func (.func (hasF i)) #[] #[], .func (.func (nextF i)) #[] #[], .func (.func (cntF i)) #[] #[]] _, by omega, ((Below.refl _ _).alloc (Nat.le_refl _) _).alloc (by simp) _⟩
          · clear hk
            refine opIn_at rfl rfl ?_
            gi_wp2
            refine anyIn_cons (l := [3]) (by kernel_rfl) (by simp) ?_
            intro k hk
            obtain rfl : k = 3 := by simpa using hk
            clear hk
            refine opIn_at rfl rfl ?_
            gi_wp2
            refine anyIn_cons (l := [5]) (by kernel_rfl) (by simp) ?_
            intro k hk
            obtain rfl : k = 5 := by simpa using hk
            clear hk
            refine opIn_at rfl rfl ?_
            gi_wp2
            exact anyIn_end (by kernel_rfl) ⟨rfl, Wd.heap.size + 1, rfl, row_second Wd _ [.func (.func (vF i)) #[] #[], .func (.func (hasF i)) #[] #[], .func (.func (nextF i)) #[] #[], .func (.func (cntF i)) #[] #[]] _, by omega, ((Below.refl _ _).alloc (Nat.le_refl _) _).alloc (by simp) _⟩
        · clear hk
          refine opIn_at rfl rfl ?_
          gi_wp2
          refine anyIn_cons (l := [0]) (by kernel_rfl) (by simp) ?_
          intro k hk
          obtain rfl : k = 0 := by simpa using hk
          clear hk
          refine opIn_at rfl rfl ?_
          gi_wp2_with (refine ⟨trivial, ?_⟩; gi_at_call 43; refine (callsIn_wide.2 (KE.out _)).mono ?_; rintro e V' ⟨rfl, rfl⟩)
          refine anyIn_cons (l := [3]) (by kernel_rfl) (by simp) ?_
          intro k hk
          obtain rfl : k = 3 := by simpa using hk
          clear hk
          refine opIn_at rfl rfl ?_
          gi_wp2
          refine anyIn_cons (l := [5]) (by kernel_rfl) (by simp) ?_
          intro k hk
          obtain rfl : k = 5 := by simpa using hk
          clear hk
          refine opIn_at rfl rfl ?_
          gi_wp2
          exact anyIn_end (by kernel_rfl) ⟨rfl, Wd.heap.size, rfl, (Row.new Wd [.func (.func (vF i)) #[] #[], .func (.func (hasF i)) #[] #[], .func (.func (nextF i)) #[] #[], .func (.func (cntF i)) #[] #[]] 74).alloc _, Nat.le_refl _, ((Below.refl _ _).alloc (Nat.le_refl _) _).alloc (by simp) _⟩
      · clear hk
        refine opIn_at rfl rfl ?_
        gi_wp2
        refine anyIn_cons (l := [0, 2]) (by kernel_rfl) (by simp) ?_
        intro k hk
        obtain rfl | rfl : k = 0 ∨ k = 2 := by simpa using hk
        · clear hk
          refine opIn_at rfl rfl ?_
          gi_wp2_with (refine ⟨trivial, ?_⟩; gi_at_call 43; refine (callsIn_wide.2 (KE.out _)).mono ?_; rintro e V' ⟨rfl, rfl⟩)
          refine anyIn_cons (l := [2]) (by kernel_rfl) (by simp) ?_
          intro k hk
          obtain rfl : k = 2 := by simpa using hk
          clear hk
          refine opIn_at rfl rfl ?_
          gi_wp2
          refine anyIn_cons (l := [3]) (by kernel_rfl) (by simp) ?_
          intro k hk
          obtain rfl : k = 3 := by simpa using hk
          clear hk
          refine opIn_at rfl rfl ?_
          gi_wp2
          refine anyIn_cons (l := [5]) (by kernel_rfl) (by simp) ?_
          intro k hk
          obtain rfl : k = 5 := by simpa using hk
          clear hk
          refine opIn_at rfl rfl ?_
          gi_wp2
          exact anyIn_end (by kernel_rfl) ⟨rfl, Wd.heap.size, rfl, (Row.new Wd [.func (.func (vF i)) #[] #[], .func (.func (hasF i)) #[] #[], .func (.func (nextF i)) #[] #[], .func (.func (cntF i)) #[] #[]] 74).alloc _, Nat.le_refl _, ((Below.refl _ _).alloc (Nat.le_refl _) _).alloc (by simp) _⟩
        · clear hk
          refine opIn_at rfl rfl ?_
          gi_wp2
          refine anyIn_cons (l := [0]) (by kernel_rfl) (by simp) ?_
          intro k hk
          obtain rfl : k = 0 := by simpa using hk
          clear hk
          refine opIn_at rfl rfl ?_
          gi_wp2_with (refine ⟨trivial, ?_⟩; gi_at_call 43; refine (callsIn_wide.2 (KE.out _)).mono ?_; rintro e V' ⟨rfl, rfl⟩)
          refine anyIn_cons (l := [3]) (by kernel_rfl) (by simp) ?_
          intro k hk
          obtain rfl : k = 3 := by simpa using hk
          clear hk
          refine opIn_at rfl rfl ?_
          gi_wp2
          refine anyIn_cons (l := [5]) (by kernel_rfl) (by simp) ?_
          intro k hk
          obtain rfl : k = 5 := by simpa using hk
          clear hk
          refine opIn_at rfl rfl ?_
          gi_wp2
          exact anyIn_end (by kernel_rfl) ⟨rfl, Wd.heap.size, rfl, (Row.new Wd [.func (.func (vF i)) #[] #[], .func (.func (hasF i)) #[] #[], .func (.func (nextF i)) #[] #[], .func (.func (cntF i)) #[] #[]] 74).alloc _, Nat.le_refl _, ((Below.refl _ _).alloc (Nat.le_refl _) _).alloc (by simp) _⟩
    · clear hk
      refine opIn_at rfl rfl ?_
      gi_wp2
      refine anyIn_cons (l := [0, 1]) (by kernel_rfl) (by simp) ?_
      intro k hk
      obtain rfl | rfl : k = 0 ∨ k = 1 := by simpa using hk
      · clear hk
        refine opIn_at rfl rfl ?_
        gi_wp2_with (refine ⟨trivial, ?_⟩; gi_at_call 43; refine (callsIn_wide.2 (KE.out _)).mono ?_; rintro e V' ⟨rfl, rfl⟩)
        refine anyIn_cons (l := [1]) (by kernel_rfl) (by simp) ?_
        intro k hk
        obtain rfl : k = 1 := by simpa using hk
        clear hk
        refine opIn_at rfl rfl ?_
        gi_wp2
        refine anyIn_cons (l := [2]) (by kernel_rfl) (by simp) ?_
        intro k hk
        obtain rfl : k = 2 := by simpa using hk
        clear hk
        refine opIn_at rfl rfl ?_
        gi_wp2
        refine anyIn_cons (l := [3]) (by kernel_rfl) (by simp) ?_
        intro k hk
        obtain rfl : k = 3 := by simpa using hk
        clear hk
        refine opIn_at rfl rfl ?_
        gi_wp2
        refine anyIn_cons (l := [5]) (by kernel_rfl) (by simp) ?_
        intro k hk
        obtain rfl : k = 5 := by simpa using hk
        clear hk
        refine opIn_at rfl rfl ?_
        gi_wp2
        exact anyIn_end (by kernel_rfl) ⟨rfl, Wd.heap.size, rfl, (Row.new Wd [.func (.func (vF i)) #[] #[], .func (.func (hasF i)) #[] #[], .func (.func (nextF i)) #[] #[], .func (.func (cntF i)) #[] #[]] 74).alloc _, Nat.le_refl _, ((Below.refl _ _).alloc (Nat.le_refl _) _).alloc (by simp) _⟩
      · clear hk
        refine opIn_at rfl rfl ?_
        gi_wp2
        refine anyIn_cons (l := [0, 2]) (by kernel_rfl) (by simp) ?_
        intro k hk
        obtain rfl | rfl : k = 0 ∨ k = 2 := by simpa using hk
        · clear hk
          refine opIn_at rfl rfl ?_
          gi_wp2_with (refine ⟨trivial, ?_⟩; gi_at_call 43; refine (callsIn_wide.2 (KE.out _)).mono ?_; rintro e V' ⟨rfl, rfl⟩)
          refine anyIn_cons (l := [2]) (by kernel_rfl) (by simp) ?_
          intro k hk
          obtain rfl : k = 2 := by simpa using hk
          clear hk
          refine opIn_at rfl rfl ?_
          gi_wp2
          refine anyIn_cons (l := [3]) (by kernel_rfl) (by simp) ?_
          intro k hk
          obtain rfl : k = 3 := by simpa using hk
          clear hk
          refine opIn_at rfl rfl ?_
          gi_wp2
          refine anyIn_cons (l := [5]) (by kernel_rfl) (by simp) ?_
          intro k hk
          obtain rfl : k = 5 := by simpa using hk
          clear hk
          refine opIn_at rfl rfl ?_
          gi_wp2
          exact anyIn_end (by kernel_rfl) ⟨rfl, Wd.heap.size, rfl, (Row.new Wd [.func (.func (vF i)) #[] #[], .func (.func (hasF i)) #[] #[], .func (.func (nextF i)) #[] #[], .func (.func (cntF i)) #[] #[]] 74).alloc _, Nat.le_refl _, ((Below.refl _ _).alloc (Nat.le_refl _) _).alloc (by simp) _⟩
        · clear hk
          refine opIn_at rfl rfl ?_
          gi_wp2
          refine anyIn_cons (l := [0]) (by kernel_rfl) (by simp) ?_
          intro k hk
          obtain rfl : k = 0 := by simpa using hk
          clear hk
          refine opIn_at rfl rfl ?_
          gi_wp2_with (refine ⟨trivial, ?_⟩; gi_at_call 43; refine (callsIn_wide.2 (KE.out _)).mono ?_; rintro e V' ⟨rfl, rfl⟩)
          refine anyIn_cons (l := [3]) (by kernel_rfl) (by simp) ?_
          intro k hk
          obtain rfl : k = 3 := by simpa using hk
          clear hk
          refine opIn_at rfl rfl ?_
          gi_wp2
          refine anyIn_cons (l := [5]) (by kernel_rfl) (by simp) ?_
          intro k hk
          obtain rfl : k = 5 := by simpa using hk
          clear hk
          refine opIn_at rfl rfl ?_
          gi_wp2
          exact anyIn_end (by kernel_rfl) ⟨rfl, Wd.heap.size, rfl, (Row.new Wd [.func (.func (vF i)) #[] #[], .func (.func (hasF i)) #[] #[], .func (.func (nextF i)) #[] #[], .func (.func (cntF i)) #[] #[]] 74).alloc _, Nat.le_refl _, ((Below.refl _ _).alloc (Nat.le_refl _) _).alloc (by simp) _⟩
  rintro e a2 w2 ⟨rfl, Bz, rfl, rk, hbz, hb2⟩
  have Q2 := Lib.hid (QD.out.next hb2)
  have RK := Lib.hid rk
  have R1 := Lib.hid (Bo.rowS_one w2 a b 1)
  have Q3 := Lib.hid (Q2.out.alloc (.cells #[.int .i64 a, .int .i64 b] 48))
  obtain ⟨d0, d1, d2, d3, d4, d5, d6, d7, d8, d9, d10, d11, d12, d13⟩ := Q3.out.cells
  clear c0d c0a c0b bz rk hbz hb2 BD hWd c0 ix i0 i3
  gi_wp2_with fail
  refine ⟨trivial, ?_⟩
  refine (callsIn_wide.2 (WO.out _ _ _ R1.out Q3.out.sp)).mono ?_
  rintro e V ⟨u, rfl, hO⟩
  have hOb := hO.below
  have Q4 := Lib.hid (Q3.out.next hOb)
  have RV := Lib.hid ((RK.out.alloc (.cells #[.int .i64 a, .int .i64 b] 48)).below hOb)
  have RS := Lib.hid (hO.rowS (by omega))
  obtain ⟨A9, c9, rfl⟩ := RS.out.len
  clear hO hOb d0 d1 d2 d3 d4 d5 d6 d7 d8 d9 d10 d11 d12 d13 R1
  gi_wp2_with fail
  gi_loopw [12, 44] (fun nv iv wr => ∃ k : Nat, k ≤ m.length ∧ iv = .int .i64 k ∧ nv = .int .i64 (Pl.sumN q.T (m.take k) : Nat) ∧ Hid (Below V.heap.size V wr)) (fun _ iv _ => m.length - (intOf iv).toNat)
  case atStart => exact ⟨0, by omega, rfl, by simp [Pl.sumN], Lib.hid (Below.refl _ _)⟩
  case round =>
    obtain ⟨k, hk, rfl, rfl, hb⟩ := hrel
    by_cases lt : k < m.length
    · have e0 : decide ((k : Int) < (m.length : Int)) = true := by rw [decide_eq_true_iff]; omega
      have wi : IntKind.i64.wrap ((k : Int) + 1) = (k : Int) + 1 := by rw [IntKind.wrap_i64]; omega
      obtain ⟨x, hx⟩ : ∃ x, m.getD k (0, 0) = x := ⟨_, rfl⟩
      have o := OS.out x (by rw [← hx]; exact Pl.getD_mem lt)
      have SN := Pl.sumN_take q.T lt
      have SM := Pl.sumN_small (B := q.T) OS.out (show m.length ≤ 400 by omega) (k + 1)
      obtain ⟨b', o', e', s1, s2⟩ := (RS.out.below hb.out).at lt
      cases e'
      rw [hx] at s1 s2 SN
      obtain ⟨x1, x2⟩ := x
      simp only at s1 s2 SN o
      have Q5 := Lib.hid ((Q4.out.next hb.out).alloc (.cells #[.int .i64 x1, .int .i64 x2] 48))
      have CC := Lib.hid (fun W L h => CF.out x1 x2 o.1 o.2.1 W L h)
      obtain ⟨cn, hcn⟩ : ∃ cn, cntN q.T x1 (x2 - x1 + 1).toNat = cn := ⟨_, rfl⟩
      rw [hcn] at CC SN
      obtain ⟨s0, hs0⟩ : ∃ s0, Pl.sumN q.T (m.take k) = s0 := ⟨_, rfl⟩
      rw [hs0] at SN
      rw [hs0]
      have ws : IntKind.i64.wrap ((s0 : Int) + (cn : Int)) = (s0 : Int) + (cn : Int) := by rw [SN] at SM; rw [IntKind.wrap_i64]; omega
      have HSN := Lib.hid SN
      obtain ⟨d0, d1, d2, d3, d4, d5, d6, d7, d8, d9, d10, d11, d12, d13⟩ := Q5.out.cells
      have RV5 := (RV.out.below hb.out).alloc (.cells #[.int .i64 x1, .int .i64 x2] 48)
      have k3 := RV5.cell 3
      simp at k3
      have HB5 := Lib.hid (show Below V.heap.size V (wr.alloc (.cells #[.int .i64 x1, .int .i64 x2] 48)) from hb.out.alloc hb.out.size _)
      clear hx o SN SM hcn hs0 RV5
      gi_wp2_with fail
      refine ⟨trivial, ?_⟩
      refine (callsIn_wide.2 (CC.out _ Q5.out.lay Q5.out.sp)).mono ?_
      rintro e W6 ⟨rfl, hb6⟩
      have HB6 := Lib.hid (HB5.out.trans (hb6.mono HB5.out.size))
      clear hb6
      gi_wp2_with fail
      go_roundw
      case rel => exact ⟨k + 1, by omega, by first | rfl | go_num, by rw [HSN.out]; first | rfl | (congr 1), HB6⟩
      case measure => simp [intOf] <;> omega
    · have e0 : decide ((k : Int) < (m.length : Int)) = false := by rw [decide_eq_false_iff_not]; omega
      obtain rfl : k = m.length := by omega
      have FIN : Hid (Pl.sumN q.T (m.take m.length) = q.cnt a b) := Lib.hid (by rw [List.take_length]; exact CW.out.symm)
      have QF := Lib.hid (Q4.out.next hb.out)
      clear lt hk
      gi_wp2_with fail
      refine bodyPost_ret (results_tmp2 rfl _ _ _) rfl ⟨?_, QF.out.below⟩
      rw [← FIN.out]
      rfl
end
theorem pcount_any (q : Pl.P) (hx : q.x.Bd) (v : Value) (a b c r : Int) (hr : Pl.CountR q a b c r) (w : World) (L : LayM w) (h : Bo.RowS w v q.l) :
    Calls Tryz.prog 25 #[.agg #[.int .i64 q.k, .int .u64 q.x.a0, .int .u64 q.x.a1, .int .u64 q.x.a2, .int .u64 q.x.a3, .int .u64 q.x.a4, .int .u64 q.x.a5, .bool q.x.b3, .bool q.x.b5, .int .i64 q.z, .int .i64 q.s, .int .i64 q.p, .int .i64 q.c, v], .int .i64 a, .int .i64 b] w fun e w' => e = .returned (.tuple #[.int .i64 c, .int .i64 r]) ∧ Below w.heap.size w w' := by
  obtain ⟨h1, ⟨z, rfl⟩ | ⟨rfl, rfl⟩⟩ := hr
  · exact pcount_no q hx v a b r h1.symm (.inl z) w L h
  · by_cases ab : b < a
    · have e : q.cnt a b = 0 := by unfold Pl.P.cnt; rw [show (b - a + 1).toNat = 0 by omega]; rfl
      rw [e]
      exact pcount_no q hx v a b 0 h1.symm (.inr ab) w L h
    · obtain ⟨ok, ht⟩ := Pl.P.errT_zero.1 h1.symm
      exact callsIn_wide.1 (pcount_in 5 (by omega) q ok hx v a b (ht a (by simp)) (ht b (by simp)) (by omega) w L h)
end Go.Proofs.YtljackjcgfaanaaGreatDoor
/- plan's Due over a slice of plans. -/
namespace Go.Proofs.YtljackjcgfaanaaGreatDoor.Pl
def pZ : P := ⟨0, x0, 0, 0, 0, 0, []⟩
/-- the indexes, below k, of the plans that have the time -/
noncomputable def dueK (ps : List P) (t : Int) : Nat → List Int
  | 0 => []
  | k + 1 => @ite _ ((ps.getD k pZ).K t) (Classical.propDecidable _) (dueK ps t k ++ [(k : Int)]) (dueK ps t k)
theorem dueK_yes {ps : List P} {t : Int} {k : Nat} (h : (ps.getD k pZ).K t) : dueK ps t (k + 1) = dueK ps t k ++ [(k : Int)] := by rw [dueK, if_pos h]
theorem dueK_no {ps : List P} {t : Int} {k : Nat} (h : ¬ (ps.getD k pZ).K t) : dueK ps t (k + 1) = dueK ps t k := by rw [dueK, if_neg h]
theorem dueK_len (ps : List P) (t : Int) : ∀ k, (dueK ps t k).length ≤ k
  | 0 => Nat.le_refl _
  | k + 1 => by
    have ih := dueK_len ps t k
    rw [dueK]
    split
    · rw [List.length_append]; simp; omega
    · omega
noncomputable def dueE (ps : List P) (t : Int) : Int := if 64 < ps.length then 12 else @ite _ (∀ p ∈ ps, p.Ok) (Classical.propDecidable _) (if vt t then 0 else 14) 16
theorem dueE_zero {ps : List P} {t : Int} : dueE ps t = 0 ↔ ps.length ≤ 64 ∧ (∀ p ∈ ps, p.Ok) ∧ vt t := by
  unfold dueE
  by_cases h : 64 < ps.length
  · rw [if_pos h]; simp; omega
  · rw [if_neg h]
    by_cases k : ∀ p ∈ ps, p.Ok
    · rw [if_pos k]
      by_cases z : vt t
      · rw [if_pos z]; exact ⟨fun _ => ⟨by omega, k, z⟩, fun _ => rfl⟩
      · rw [if_neg z]; exact ⟨fun q => (by cases q), fun q => absurd q.2.2 z⟩
    · rw [if_neg k]; exact ⟨fun q => (by cases q), fun q => absurd q.2.1 k⟩
def DueR (ps : List P) (t : Int) (l : List Int) (r : Int) : Prop := r = dueE ps t ∧ ((r ≠ 0 ∧ l = []) ∨ (r = 0 ∧ l = dueK ps t ps.length))
theorem dueR_ex (ps : List P) (t : Int) : ∃ l r, DueR ps t l r := by
  by_cases h : dueE ps t = 0
  · exact ⟨_, _, rfl, .inr ⟨h, rfl⟩⟩
  · exact ⟨_, _, rfl, .inl ⟨h, rfl⟩⟩
end Go.Proofs.YtljackjcgfaanaaGreatDoor.Pl
namespace Go.Proofs.YtljackjcgfaanaaGreatDoor
open Go.ChangeShapes Go.RowKit Go.Shelf

/-- a slice of these plans -/
def RowP (W : World) (v : Value) (l : List (Pl.P × Value)) : Prop := l.length ≤ 1000000 ∧ ∃ A cap, v = .slice A l.length cap ∧ ∀ j, j < l.length → ∃ b o, A = some ⟨b, o, none⟩ ∧ (∀ i c, (plL (l.getD j (Pl.pZ, .nilFunc)).1 (l.getD j (Pl.pZ, .nilFunc)).2)[i]? = some c → W.cell? ⟨b, o + j * 14 + i, none⟩ = some c) ∧ Bo.RowS W (l.getD j (Pl.pZ, .nilFunc)).2 (l.getD j (Pl.pZ, .nilFunc)).1.l ∧ (l.getD j (Pl.pZ, .nilFunc)).1.x.Bd
theorem RowP.len {W : World} {v : Value} {l : List (Pl.P × Value)} (h : RowP W v l) : ∃ A cap, v = .slice A l.length cap := by obtain ⟨_, A, cap, e, _⟩ := h; exact ⟨A, cap, e⟩
theorem RowP.below {W W' : World} {v : Value} {l : List (Pl.P × Value)} (h : RowP W v l) (hb : Below W.heap.size W W') : RowP W' v l := by
  obtain ⟨h0, A, cap, e, h⟩ := h
  refine ⟨h0, A, cap, e, fun j hj => ?_⟩
  obtain ⟨b, o, e1, e2, e3, e4⟩ := h j hj
  exact ⟨b, o, e1, fun i c hc => (hb.cell (p := ⟨b, o + j * 14 + i, none⟩) (Bo.lt_of_cell (e2 i c hc))).trans (e2 i c hc), e3.below hb, e4⟩
theorem RowP.at {W : World} {A : Option Addr} {n cap : Nat} {l : List (Pl.P × Value)} (h : RowP W (.slice A n cap) l) {j : Nat} (hj : j < l.length) {q : Pl.P} {v : Value} (hq : l.getD j (Pl.pZ, .nilFunc) = (q, v)) : ∃ b o, A = some ⟨b, o, none⟩ ∧ (W.cell? ⟨b, o + j * 14, none⟩ = some (.int .i64 q.k) ∧ W.cell? ⟨b, o + j * 14 + 1, none⟩ = some (.int .u64 q.x.a0) ∧ W.cell? ⟨b, o + j * 14 + 2, none⟩ = some (.int .u64 q.x.a1) ∧ W.cell? ⟨b, o + j * 14 + 3, none⟩ = some (.int .u64 q.x.a2) ∧ W.cell? ⟨b, o + j * 14 + 4, none⟩ = some (.int .u64 q.x.a3) ∧ W.cell? ⟨b, o + j * 14 + 5, none⟩ = some (.int .u64 q.x.a4) ∧ W.cell? ⟨b, o + j * 14 + 6, none⟩ = some (.int .u64 q.x.a5) ∧ W.cell? ⟨b, o + j * 14 + 7, none⟩ = some (.bool q.x.b3) ∧ W.cell? ⟨b, o + j * 14 + 8, none⟩ = some (.bool q.x.b5) ∧ W.cell? ⟨b, o + j * 14 + 9, none⟩ = some (.int .i64 q.z) ∧ W.cell? ⟨b, o + j * 14 + 10, none⟩ = some (.int .i64 q.s) ∧ W.cell? ⟨b, o + j * 14 + 11, none⟩ = some (.int .i64 q.p) ∧ W.cell? ⟨b, o + j * 14 + 12, none⟩ = some (.int .i64 q.c) ∧ W.cell? ⟨b, o + j * 14 + 13, none⟩ = some (v)) ∧ Bo.RowS W v q.l ∧ q.x.Bd := by
  obtain ⟨_, A', cap', e, h⟩ := h
  cases e
  obtain ⟨b, o, e1, e2, e3, e4⟩ := h j hj
  rw [hq] at e2 e3 e4
  exact ⟨b, o, e1, ⟨e2 0 _ rfl, e2 1 _ rfl, e2 2 _ rfl, e2 3 _ rfl, e2 4 _ rfl, e2 5 _ rfl, e2 6 _ rfl, e2 7 _ rfl, e2 8 _ rfl, e2 9 _ rfl, e2 10 _ rfl, e2 11 _ rfl, e2 12 _ rfl, e2 13 _ rfl⟩, e3, e4⟩
theorem infoN : (Tryz.prog.info? 3).map (fun i => (i.zero, i.size, i.bytes)) = some (some (.int .i64 0), 1, 8) := by kernel_rfl
/-- a list of ints of the call's own -/
structure OwnN (w : World) (v : Value) (l : List Int) (wr : World) : Prop where
  row : wr.ownsRow w.heap.size 3 1 v l.length (l.map (.int .i64 ·))
  below : Below w.heap.size w wr
theorem OwnN.nil {w wr : World} (h : Below w.heap.size w wr) : OwnN w (.slice none 0 0) [] wr := ⟨World.ownsRow_nil _ _ _ _, h⟩
theorem OwnN.step {w wr w1 : World} {v v' : Value} {l : List Int} {o : Obj} {x : Int} (h : OwnN w v l wr)
    (hown : w1.ownsRow w.heap.size 3 1 v' (l.length + 1) (l.map (.int .i64 ·) ++ [.int .i64 x])) (hg : (wr.alloc o).grownBy w1 v.ownBlock) : OwnN w v' (l ++ [x]) w1 := by
  have hs := h.below.size
  refine ⟨by rw [List.map_append]; simpa using hown, (h.below.alloc hs o).grown hg (by simp; omega) (fun k hk => (h.row.lt k hk).1)⟩
theorem OwnN.next {w wr w1 : World} {v : Value} {l : List Int} (h : OwnN w v l wr) (hb : Below wr.heap.size wr w1) : OwnN w v l w1 := by
  refine ⟨h.row.kept ⟨hb.os, hb.tape, hb.output, hb.size, fun k hk _ => hb.block k hk⟩ (row := none) ?_, h.below.trans (hb.mono h.below.size)⟩
  rcases h.row.2 with ⟨rfl, _⟩ | ⟨g, cap, cur, rfl, _⟩
  · exact .inl rfl
  · exact .inr (by simp [Value.ownBlock])
theorem OwnN.len {w wr : World} {v : Value} {l : List Int} (h : OwnN w v l wr) : ∃ a cap, v = .slice a l.length cap := by
  rcases h.row.2 with ⟨rfl, h0⟩ | ⟨g, cap, cur, rfl, _⟩
  · rw [h0]; exact ⟨_, _, rfl⟩
  · exact ⟨_, _, rfl⟩
theorem all_take {ps : List Pl.P} {k : Nat} (h : ∀ p ∈ ps.take k, p.Ok) (hk : k < ps.length) (hp : (ps.getD k Pl.pZ).Ok) : ∀ p ∈ ps.take (k + 1), p.Ok := by
  intro p hm
  rw [List.take_add_one] at hm
  rcases List.mem_append.1 hm with g | g
  · exact h p g
  · have e : ps[k]? = some (ps.getD k Pl.pZ) := by simp [hk]
    rw [e] at g
    obtain rfl : p = ps.getD k Pl.pZ := by simpa using g
    exact hp
theorem getD_in {l : List (Pl.P × Value)} {k : Nat} (hk : k < l.length) {q : Pl.P} (h : (l.map (·.1)).getD k Pl.pZ = q) : q ∈ l.map (·.1) := by
  rw [← h, List.getD_eq_getElem?_getD, List.getElem?_eq_getElem (by simpa using hk)]
  exact List.getElem_mem _
theorem getD_map1 {l : List (Pl.P × Value)} {k : Nat} (hk : k < l.length) {q : Pl.P} {v : Value} (h : l.getD k (Pl.pZ, .nilFunc) = (q, v)) : (l.map (·.1)).getD k Pl.pZ = q := by
  have : (l.map (·.1)).getD k Pl.pZ = (l.getD k (Pl.pZ, .nilFunc)).1 := by simp [List.getD_eq_getElem?_getD, hk]
  rw [this, h]
set_option maxRecDepth 100000 in
set_option maxHeartbeats 8000000 in
theorem pdue_any (v : Value) (ps : List (Pl.P × Value)) (t : Int) (l : List Int) (r : Int) (hr : Pl.DueR (ps.map (·.1)) t l r) (w : World) (L : LayM w) (h : RowP w v ps) :
    Calls Tryz.prog 29 #[v, .int .i64 t] w fun e w' => ∃ u, e = .returned (.tuple #[u, .int .i64 r]) ∧ OwnN w u l w' := by
  have LL := Lib.hid L
  have HR := Lib.hid h
  have PN := h.1
  obtain ⟨z0, hi, hz0, hz1, hz2⟩ := info_parts infoN
  obtain ⟨A, cap, rfl⟩ := h.len
  have DR := Lib.hid hr
  have ln : (ps.map (·.1)).length = ps.length := by simp
  have LNM := Lib.hid ln
  have CV := Lib.hid (fun r hr W => pvalid_any t r hr W)
  clear h L hr
  by_cases big : 64 < ps.length
  · have d0 : decide ((64 : Int) < (ps.length : Int)) = true := by rw [decide_eq_true_iff]; omega
    have E : Hid (r = 12 ∧ l = []) := Lib.hid (by
      have e : r = 12 := by rw [DR.out.1]; unfold Pl.dueE; rw [if_pos (by omega)]
      rcases DR.out.2 with ⟨_, k⟩ | ⟨k, _⟩
      · exact ⟨e, k⟩
      · omega)
    clear ln LNM big
    go_enter Tryz.func29, Tryz.ntmps29
    go_wp2_with fail
    go_ret2
    obtain ⟨rfl, rfl⟩ := E.out
    exact ⟨_, rfl, .nil (Below.refl _ _)⟩
  · have d0 : decide ((64 : Int) < (ps.length : Int)) = false := by rw [decide_eq_false_iff_not]; omega
    have BG := Lib.hid big
    clear ln big
    go_enter Tryz.func29, Tryz.ntmps29
    go_wp2_with fail
    go_loopw [17] (fun iv wr => ∃ k : Nat, k ≤ ps.length ∧ iv = .int .i64 k ∧ Hid (∀ p ∈ (ps.map (·.1)).take k, p.Ok) ∧ Hid (Below w.heap.size w wr)) (fun iv _ => ps.length - (intOf iv).toNat)
    case atStart => exact ⟨0, by omega, rfl, Lib.hid (by simp), Lib.hid (Below.refl _ _)⟩
    case round =>
      obtain ⟨k, hk, rfl, hok, hb⟩ := hrel
      by_cases lt : k < ps.length
      · have e0 : decide ((k : Int) < (ps.length : Int)) = true := by rw [decide_eq_true_iff]; omega
        have wi : IntKind.i64.wrap ((k : Int) + 1) = (k : Int) + 1 := by rw [IntKind.wrap_i64]; omega
        obtain ⟨⟨q, vq⟩, hq⟩ : ∃ x, ps.getD k (Pl.pZ, .nilFunc) = x := ⟨_, rfl⟩
        obtain ⟨b, o, rfl, ⟨c0, c1, c2, c3, c4, c5, c6, c7, c8, c9, c10, c11, c12, c13⟩, hs, hx⟩ := (HR.out.below hb.out).at lt hq
        have GM := Lib.hid (getD_map1 lt hq)
        obtain ⟨A2, cap2, rfl⟩ := hs.len
        have HB1 := Lib.hid (show Below w.heap.size w (wr.alloc (.cells #[.int .i64 q.k, .int .u64 q.x.a0, .int .u64 q.x.a1, .int .u64 q.x.a2, .int .u64 q.x.a3, .int .u64 q.x.a4, .int .u64 q.x.a5, .bool q.x.b3, .bool q.x.b5, .int .i64 q.z, .int .i64 q.s, .int .i64 q.p, .int .i64 q.c, (.slice A2 q.l.length cap2)] 29)) from hb.out.alloc hb.out.size _)
        obtain ⟨ep, hep⟩ : ∃ ep, q.err = ep := ⟨_, rfl⟩
        have CK := Lib.hid (pchk_any q hx (.slice A2 q.l.length cap2) ep hep (wr.alloc (.cells #[.int .i64 q.k, .int .u64 q.x.a0, .int .u64 q.x.a1, .int .u64 q.x.a2, .int .u64 q.x.a3, .int .u64 q.x.a4, .int .u64 q.x.a5, .bool q.x.b3, .bool q.x.b5, .int .i64 q.z, .int .i64 q.s, .int .i64 q.p, .int .i64 q.c, (.slice A2 q.l.length cap2)] 29)) (LL.out.below HB1.out) (hs.alloc _))
        rcases q.err_or with e2 | e2
        · obtain rfl : ep = 0 := hep.symm.trans e2
          have OK := Lib.hid (all_take hok.out (by have := LNM.out; omega) (by rw [GM.out]; exact Pl.P.err_ok.1 e2))
          clear hs hx hep e2 hq
          go_wp2_with fail
          refine (CK.out).mono ?_
          rintro e w2 ⟨rfl, hb2⟩
          have HB2 := Lib.hid (HB1.out.trans (hb2.mono HB1.out.size))
          clear hb2
          go_wp2_with fail
          go_roundw
          case rel => exact ⟨k + 1, by omega, by first | rfl | go_num, OK, HB2⟩
          case measure => simp [intOf] <;> omega
        · obtain rfl : ep = 16 := hep.symm.trans e2
          have E : Hid (r = 16 ∧ l = []) := Lib.hid (by
            have no : ¬ ∀ p ∈ ps.map (·.1), p.Ok := fun z => by
              have := z q (getD_in lt GM.out)
              have := Pl.P.err_ok.2 this
              omega
            have e : r = 16 := by rw [DR.out.1]; unfold Pl.dueE; rw [if_neg (by have := BG.out; have := LNM.out; omega), if_neg no]
            rcases DR.out.2 with ⟨_, k⟩ | ⟨k, _⟩
            · exact ⟨e, k⟩
            · omega)
          clear hs hx hep e2 hq
          go_wp2_with fail
          refine (CK.out).mono ?_
          rintro e w2 ⟨rfl, hb2⟩
          have HB2 := Lib.hid (HB1.out.trans (hb2.mono HB1.out.size))
          clear hb2
          go_wp2_with fail
          go_ret2
          obtain ⟨rfl, rfl⟩ := E.out
          exact ⟨_, rfl, .nil HB2.out⟩
      · have e0 : decide ((k : Int) < (ps.length : Int)) = false := by rw [decide_eq_false_iff_not]; omega
        have ALL : Hid (∀ p ∈ ps.map (·.1), p.Ok) := Lib.hid (by
          have := hok.out
          rwa [List.take_of_length_le (by have := LNM.out; omega)] at this)
        obtain rfl : k = ps.length := by omega
        clear lt hk hok
        by_cases tv : Pl.vt t
        · have CVT := Lib.hid (fun W => CV.out true (decide_eq_true tv) W)
          have E : Hid (r = 0 ∧ l = Pl.dueK (ps.map (·.1)) t ps.length) := Lib.hid (by
            have e : r = 0 := by rw [DR.out.1]; exact Pl.dueE_zero.2 ⟨by have := BG.out; have := LNM.out; omega, ALL.out, tv⟩
            rcases DR.out.2 with ⟨k, _⟩ | ⟨_, k⟩
            · exact absurd e k
            · rw [LNM.out] at k; exact ⟨e, k⟩)
          have TV := Lib.hid tv
          clear tv
          go_wp2_with fail
          refine (CVT.out _).mono ?_
          rintro e _ ⟨rfl, rfl⟩
          go_wp2_with fail
          go_loopw [9, 32] (fun dv iv wr => ∃ k : Nat, k ≤ ps.length ∧ iv = .int .i64 k ∧ Hid (OwnN w dv (Pl.dueK (ps.map (·.1)) t k) wr)) (fun _ iv _ => ps.length - (intOf iv).toNat)
          case atStart => exact ⟨0, by omega, rfl, Lib.hid (.nil hb.out)⟩
          case round =>
            obtain ⟨k, hk, rfl, ho⟩ := hrel
            obtain ⟨a9, c9, rfl⟩ := ho.out.len
            by_cases lt : k < ps.length
            · have e0 : decide ((k : Int) < (ps.length : Int)) = true := by rw [decide_eq_true_iff]; omega
              have wi : IntKind.i64.wrap ((k : Int) + 1) = (k : Int) + 1 := by rw [IntKind.wrap_i64]; omega
              obtain ⟨⟨q, vq⟩, hq⟩ : ∃ x, ps.getD k (Pl.pZ, .nilFunc) = x := ⟨_, rfl⟩
              obtain ⟨b, o, rfl, ⟨c0, c1, c2, c3, c4, c5, c6, c7, c8, c9', c10, c11, c12, c13⟩, hs, hx⟩ := (HR.out.below ho.out.below).at lt hq
              have GM := getD_map1 lt hq
              obtain ⟨A2, cap2, rfl⟩ := hs.len
              have H1 := Lib.hid (ho.out.next ((Below.refl _ wr).alloc (Nat.le_refl _) (.cells #[.int .i64 q.k, .int .u64 q.x.a0, .int .u64 q.x.a1, .int .u64 q.x.a2, .int .u64 q.x.a3, .int .u64 q.x.a4, .int .u64 q.x.a5, .bool q.x.b3, .bool q.x.b5, .int .i64 q.z, .int .i64 q.s, .int .i64 q.p, .int .i64 q.c, (.slice A2 q.l.length cap2)] 29)))
              have okq := ALL.out q (getD_in lt GM)
              obtain ⟨p, hp⟩ : ∃ p : Bool, p = true ↔ q.K t := by
                by_cases z : q.K t
                · exact ⟨true, by simp [z]⟩
                · exact ⟨false, by simp [z]⟩
              have PH := Lib.hid (phas_any q okq hx (.slice A2 q.l.length cap2) t TV.out p hp (wr.alloc (.cells #[.int .i64 q.k, .int .u64 q.x.a0, .int .u64 q.x.a1, .int .u64 q.x.a2, .int .u64 q.x.a3, .int .u64 q.x.a4, .int .u64 q.x.a5, .bool q.x.b3, .bool q.x.b5, .int .i64 q.z, .int .i64 q.s, .int .i64 q.p, .int .i64 q.c, (.slice A2 q.l.length cap2)] 29)) (LL.out.below H1.out.below) (hs.alloc _))
              have DL := Pl.dueK_len (ps.map (·.1)) t k
              cases p with
              | false =>
                have E2 := Lib.hid (Pl.dueK_no (ps := ps.map (·.1)) (t := t) (k := k) (by rw [GM]; exact fun z => by cases hp.2 z))
                clear hs hx hp hq okq GM
                go_wp2_with fail
                refine (PH.out).mono ?_
                rintro e w3 ⟨rfl, hb3⟩
                have H3 := Lib.hid (H1.out.next hb3)
                clear hb3
                go_wp2_with fail
                go_roundw
                case rel => exact ⟨k + 1, by omega, by first | rfl | go_num, Lib.hid (by rw [E2.out]; exact H3.out)⟩
                case measure => simp [intOf] <;> omega
              | true =>
                have E2 := Lib.hid (Pl.dueK_yes (ps := ps.map (·.1)) (t := t) (k := k) (by rw [GM]; exact hp.1 rfl))
                clear hs hx hp hq okq GM
                go_wp2_with fail
                refine (PH.out).mono ?_
                rintro e w3 ⟨rfl, hb3⟩
                have H3 := Lib.hid (H1.out.next hb3)
                clear hb3
                go_wp2_with (at_builtin; refine wpList_append_own _ rfl _ _ 50 rfl w.heap.size 3 z0 (.int .i64 0) 1 8 Tryz.underlying50 hi hz0 hz1 hz2 rfl (by decide) _ (Pl.dueK (ps.map (·.1)) t k).length ((Pl.dueK (ps.map (·.1)) t k).map (.int .i64 ·)) rfl (H3.out.row.alloc _) ⟨w3.heap.size, 0, none⟩ 1 1 [.int .i64 (k : Int)] rfl rfl ?x1 ?x2 ?x3 ?x4 ?x5 ?_)
                case x1 => exact Bo.cells_new _ _ rfl [.int .i64 (k : Int)] _
                case x2 => simp [Value.oneCell']
                case x3 => simp [maxLen]; omega
                case x4 => omega
                case x5 => have := H3.out.below.size; simp; omega
                intro v' W1 hown' hgrow _
                have H4 := Lib.hid (H3.out.step hown' hgrow)
                obtain ⟨a8, c8', rfl⟩ := H4.out.len
                clear hown' hgrow
                go_wp2_with fail
                go_roundw
                case rel => exact ⟨k + 1, by omega, by first | rfl | go_num, Lib.hid (by rw [E2.out]; exact H4.out)⟩
                case measure => simp [intOf] <;> omega
            · have e0 : decide ((k : Int) < (ps.length : Int)) = false := by rw [decide_eq_false_iff_not]; omega
              obtain rfl : k = ps.length := by omega
              clear lt hk
              go_wp2_with fail
              go_ret2
              obtain ⟨rfl, rfl⟩ := E.out
              exact ⟨_, rfl, ho.out⟩
        · have CVT := Lib.hid (fun W => CV.out false (decide_eq_false tv) W)
          have E : Hid (r = 14 ∧ l = []) := Lib.hid (by
            have e : r = 14 := by rw [DR.out.1]; unfold Pl.dueE; rw [if_neg (by have := BG.out; have := LNM.out; omega), if_pos ALL.out, if_neg tv]
            rcases DR.out.2 with ⟨_, k⟩ | ⟨k, _⟩
            · exact ⟨e, k⟩
            · omega)
          clear tv
          go_wp2_with fail
          refine (CVT.out _).mono ?_
          rintro e _ ⟨rfl, rfl⟩
          go_wp2_with fail
          go_ret2
          obtain ⟨rfl, rfl⟩ := E.out
          exact ⟨_, rfl, .nil hb.out⟩
end Go.Proofs.YtljackjcgfaanaaGreatDoor
