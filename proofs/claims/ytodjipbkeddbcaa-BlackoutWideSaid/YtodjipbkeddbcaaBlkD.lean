/- Contracts of borders of package blackout and of the iterator that it returns. -/
import Derived.RangeFuncBox
import Derived.RangeFuncLeaves
import Derived.RangeFuncNested
import Derived.Maps.OwnIn
import Derived.OwnWalkIn
import Derived.TacticsInMore
import Derived.LoopNIn
import Derived.LoopIn
import Derived.Sort.QuietIn
import Derived.Lib.SliceRun
import Derived.Test.YtodjipbkeddbcaaBlkC
namespace Go.Proofs.Ytodjipbkeddbcaa
open Go.ChangeShapes Go.RowKit Go.Shelf

/-- what a round keeps: what lay ahead of the iterator, but for the caller's own boxes, and all cells but rows of spans -/
structure Kt (own : Nat → Prop) (n₀ : Nat) (A B : World) : Prop where
  size : A.heap.size ≤ B.heap.size
  old : ∀ b, b < n₀ → ¬ own b → B.heap[b]? = A.heap[b]?
  keep : ∀ b c t f, ¬ own b → A.heap[b]? = some (.cells c t f) → t ≠ 27 → B.heap[b]? = some (.cells c t f)
theorem Kt.refl (own : Nat → Prop) (n₀ : Nat) (A : World) : Kt own n₀ A A := ⟨Nat.le_refl _, fun _ _ _ => rfl, fun _ _ _ _ _ h _ => h⟩
theorem Kt.trans {own : Nat → Prop} {n₀ : Nat} {A B C : World} (h : Kt own n₀ A B) (k : Kt own n₀ B C) : Kt own n₀ A C :=
  ⟨Nat.le_trans h.size k.size, fun b hb ho => (k.old b hb ho).trans (h.old b hb ho), fun b c t f ho q ht => k.keep b c t f ho (h.keep b c t f ho q ht) ht⟩
theorem Kt.put {own : Nat → Prop} {n₀ : Nat} (W : World) (l : Nat) (o o' : Obj) (hn : n₀ ≤ l) (hl : W.heap[l]? = some o) (ho : o.isCells = false) : Kt own n₀ W (W.putObj l o') :=
  ⟨by simp, fun b hb _ => World.putObj_heap_other (by omega), fun b c t f _ q _ => by
    by_cases e : b = l
    · subst e; rw [hl] at q; cases q; cases ho
    · exact (World.putObj_heap_other e).trans q⟩
theorem Kt.book {own : Nat → Prop} {n₀ : Nat} {w : World} (hn : n₀ ≤ w.heap.size) : ∀ (W : World) (l : Nat) (o o' : Obj), w.heap.size ≤ l → W.heap[l]? = some o → o.isCells = false → o.isWalk = false → Kt own n₀ W (W.putObj l o') :=
  fun W l o o' hl h hc _ => Kt.put W l o o' (Nat.le_trans hn hl) h hc
theorem Kt.of_below {own : Nat → Prop} {n₀ : Nat} {W W' : World} (h : Below W.heap.size W W') (hn : n₀ ≤ W.heap.size) : Kt own n₀ W W' :=
  ⟨h.size, fun b hb _ => h.block b (by omega), fun b _ _ _ _ q _ => (h.block b (Array.getElem?_eq_some_iff.1 q).1).trans q⟩
theorem Kt.drewN {own : Nat → Prop} {n₀ : Nat} {A B : World} (h : Kt own n₀ A B) (m : Nat) : Kt own n₀ A (B.drewN m) := ⟨h.size, h.old, h.keep⟩
theorem Kt.alloc {own : Nat → Prop} {n₀ : Nat} {A B : World} (h : Kt own n₀ A B) (hn : n₀ ≤ A.heap.size) (o : Obj) : Kt own n₀ A (B.alloc o) :=
  h.trans (Kt.of_below ((Below.refl _ _).alloc (Nat.le_refl _) _) (Nat.le_trans hn h.size))
theorem Kt.cell {own : Nat → Prop} {n₀ : Nat} {A B : World} (h : Kt own n₀ A B) {p : Addr} (hp : p.block < n₀) (ho : ¬ own p.block) : B.cell? p = A.cell? p := World.cell?_of_block (h.old p.block hp ho)
theorem Kt.rowS {own : Nat → Prop} {n₀ : Nat} {V A B : World} {v : Value} {l : List (Int × Int)} (h : Kt own n₀ A B) (hV : Below V.heap.size V A) (ho : ∀ b, own b → V.heap.size ≤ b) (hn : V.heap.size ≤ n₀) (r : RowS V v l) : RowS B v l := by
  obtain ⟨h0, hz, C, cap, e, c⟩ := r
  refine ⟨h0, hz, C, cap, e, fun j hj => ?_⟩
  obtain ⟨b, o, e1, e2, e3⟩ := c j hj
  have hb := lt_of_cell e2
  refine ⟨b, o, e1, ?_, ?_⟩
  · rw [h.cell (p := ⟨b, o + j * 2, none⟩) (by show b < n₀; omega) (fun q => by have := ho b q; omega), hV.cell (p := ⟨b, o + j * 2, none⟩) hb]
    exact e2
  · rw [h.cell (p := ⟨b, o + j * 2 + 1, none⟩) (by show b < n₀; omega) (fun q => by have := ho b q; omega), hV.cell (p := ⟨b, o + j * 2 + 1, none⟩) hb]
    exact e3
theorem Kt.rowE {own : Nat → Prop} {n₀ : Nat} {A B : World} {v : Value} {l : List (Int × Int × Int)} (h : Kt own n₀ A B) (ho : ∀ b, own b → b < n₀) (r : RowE n₀ A v l) : RowE n₀ B v l := by
  obtain ⟨h0, C, cap, e, c⟩ := r
  refine ⟨h0, C, cap, e, fun j hj => ?_⟩
  obtain ⟨b, o, e1, ⟨e2, cc, f, e3⟩, k1, k2, k3⟩ := c j hj
  have q := h.keep b cc _ f (fun q => by have := ho b q; omega) e3 (by decide)
  have hc : ∀ i, B.cell? ⟨b, i, none⟩ = A.cell? ⟨b, i, none⟩ := fun i => World.cell?_of_block (q.trans e3.symm)
  exact ⟨b, o, e1, ⟨e2, cc, f, q⟩, (hc _).trans k1, (hc _).trans k2, (hc _).trans k3⟩
theorem grown_drewN (W : World) (n : Nat) : W.grownBy (W.drewN n) none := ⟨rfl, rfl, rfl, Nat.le_refl _, fun _ _ _ => rfl⟩
theorem abides_drewN {β : Type} {B : Nat} {J : β → World → Prop} (h : AbidesFrom B J) {s : β} {W : World} (hs : J s W) (n : Nat) : J s (W.drewN n) :=
  h s W _ none hs (grown_drewN W n) (fun _ e => by cases e)
theorem abides_alloc {β : Type} {B : Nat} {J : β → World → Prop} (h : AbidesFrom B J) {s : β} {W : World} (hs : J s W) (o : Obj) : J s (W.alloc o) :=
  h s W _ none hs (World.grownBy_alloc W o none) (fun _ e => by cases e)
theorem abides_below {β : Type} {B : Nat} {J : β → World → Prop} (h : AbidesFrom B J) {s : β} {W W' : World} (hs : J s W) (hb : Below W.heap.size W W') : J s W' :=
  h s W _ none hs ⟨hb.os, hb.tape, hb.output, hb.size, fun k hk _ => hb.block k hk⟩ (fun _ e => by cases e)
theorem RowE.at {n : Nat} {W : World} {A : Option Addr} {m cap : Nat} {l : List (Int × Int × Int)} (h : RowE n W (.slice A m cap) l) {j : Nat} (hj : j < l.length) : ∃ b o, A = some ⟨b, o, none⟩ ∧ W.cell? ⟨b, o + j * 3, none⟩ = some (.int .i64 (l.getD j (0, 0, 0)).1) ∧ W.cell? ⟨b, o + j * 3 + 1, none⟩ = some (.int .i64 (l.getD j (0, 0, 0)).2.1) ∧ W.cell? ⟨b, o + j * 3 + 2, none⟩ = some (.int .i64 (l.getD j (0, 0, 0)).2.2) := by
  obtain ⟨_, A', cap', e, h⟩ := h
  cases e
  obtain ⟨b, o, e1, _, k⟩ := h j hj
  exact ⟨b, o, e1, k⟩
theorem sm_take (f : Int × Int × Int → Int) {E : List (Int × Int × Int)} {i : Nat} (h : i < E.length) : Bk.sm f (E.take (i + 1)) = Bk.sm f (E.take i) + f (E.getD i (0, 0, 0)) := by
  rw [Bk.take_snoc h, Bk.sm_append]
  simp [Bk.sm]
/-- a border with who has the times from there on, as Go has it -/
def mgV (x : Int × Bool × Bool) : Array Value := #[.int .i64 x.1, .agg #[.bool x.2.1, .bool x.2.2]]

section
attribute [local go_sem] Oper.semAt_some
set_option maxRecDepth 100000 in
set_option maxHeartbeats 4000000 in
theorem iter_in (n : Nat) (hn : 3 ≤ n) (l Ba Bb : Nat) (va vb : Value) (a b : List (Int × Int)) (oka : Bk.OkL a) (okb : Bk.OkL b) (own : Nat → Prop) (n₀ : Nat) (V w : World) (B : Nat) (J Jx : List (Int × Bool × Bool) → World → Prop) (hJ : AbidesFrom B J)
    (hw : n₀ = w.heap.size) (hV : Below V.heap.size V w) (hown : ∀ b, own b → V.heap.size ≤ b ∧ b < n₀) (ra : RowS V va a) (rb : RowS V vb b) (hBa : Ba < n₀) (hBb : Bb < n₀) (oa : ¬ own Ba) (ob : ¬ own Bb)
    (ca : w.cell? ⟨Ba, 0, none⟩ = some va) (cb : w.cell? ⟨Bb, 0, none⟩ = some vb)
    (hY : ∀ pre x W, J pre W → pre.length < (Bk.bor a b).length → YieldAt Fence.wide (n - 1) Try.prog l (mgV x) W fun e W' =>
      (e = .returned (.bool true) ∧ J (pre ++ [x]) W' ∧ Kt own n₀ W W') ∨ (e = .returned (.bool false) ∧ Jx (pre ++ [x]) W'))
    (W : World) (hW : Below w.heap.size w W) (h0 : J [] W) :
    CallsIn Fence.wide n Try.prog 61 #[.func (.yield l) #[] #[], .pointer (some ⟨Ba, 0, none⟩), .pointer (some ⟨Bb, 0, none⟩)] W fun e W' => (∃ v, e = .returned v) ∧
      ((∃ ys, ys = Bk.bor a b ∧ J ys W') ∨ (∃ pre, pre <+: Bk.bor a b ∧ Jx pre W')) := by
  have h1 : 1 ≤ n := by omega
  have K0 : Hid (Kt own n₀ w W) := Lib.hid (Kt.of_below hW (Nat.le_of_eq hw))
  have RA := Lib.hid (K0.out.rowS hV (fun b q => (hown b q).1) (by rw [hw]; exact hV.size) ra)
  have RB := Lib.hid (K0.out.rowS hV (fun b q => (hown b q).1) (by rw [hw]; exact hV.size) rb)
  have CA := (K0.out.cell (p := ⟨Ba, 0, none⟩) hBa oa).trans ca
  have CB := (K0.out.cell (p := ⟨Bb, 0, none⟩) hBb ob).trans cb
  have HY := Lib.hid hY
  have HO := Lib.hid (fun b (q : own b) => (hown b q).2)
  have HN := Lib.hid (show n₀ ≤ W.heap.size by rw [hw]; exact hW.size)
  have OA := Lib.hid oka.2
  have OB := Lib.hid okb.2
  have EC := Lib.hid (edges_any va vb a b oka okb W RA.out RB.out)
  have EL := Bk.edgesL_len a b
  have LA := oka.1
  have LB := okb.1
  obtain ⟨A1, cap1, rfl⟩ := ra.len
  obtain ⟨A2, cap2, rfl⟩ := rb.len
  clear hY oka okb hown hW hw ca cb hV ra rb
  refine callsIn_of_wp Try.func61 rfl trivial ?_ rfl
  simp only [Try.ntmps61, List.size_toArray, List.length_cons, List.length_nil, Nat.reduceAdd, Nat.reduceSub, Array.replicate_succ, Array.replicate_zero, List.push_toArray, List.append_toArray, List.nil_append, List.cons_append]
  gi_wp2_with (refine ⟨trivial, ?_⟩; gi_at_call 62; refine (callsIn_wide.2 EC.out).mono ?_; rintro e W1 ⟨v, E, rfl, hp, hs, hr, hb⟩)
  have HP := Lib.hid hp
  have HS := Lib.hid hs
  have LE : E.length ≤ 256 := by have := hp.length_eq; omega
  have hJ1 := abides_below hJ h0 hb
  have K1 : Hid (Kt own n₀ W W1) := Lib.hid (Kt.of_below hb HN.out)
  have R1 : Hid (RowE n₀ W1 v E) := Lib.hid (by
    obtain ⟨q0, A, cap, e, c⟩ := hr
    refine ⟨q0, A, cap, e, fun j hj => ?_⟩
    obtain ⟨b', o, e1, ⟨e2, e3⟩, k⟩ := c j hj
    exact ⟨b', o, e1, ⟨by have := HN.out; omega, e3⟩, k⟩)
  have GI : Hid (Bk.bor a b = (Bk.grp E).map (Bk.borT a b)) := Lib.hid (by rw [Bk.grp_is hs hp]; rfl)
  have HN1 := Lib.hid (show n₀ ≤ W1.heap.size by have := HN.out; have := hb.size; omega)
  obtain ⟨A, cap, rfl⟩ := hr.len
  clear hr hp hs hb h0 CA CB
  gi_wp2
  go_simp
  gi_wp2
  gi_loopw [5, 6, 14] (fun av bv iv wr => ∃ (i : Nat) (pre : List (Int × Bool × Bool)), i ≤ E.length ∧ iv = .int .i64 i ∧ av = .int .i64 (Bk.sm (·.2.1) (E.take i)) ∧ bv = .int .i64 (Bk.sm (·.2.2) (E.take i)) ∧ Hid (Bk.bor a b = pre ++ (Bk.grp (E.drop i)).map (Bk.borT a b)) ∧ J pre wr ∧ Hid (Kt own n₀ W1 wr)) (fun _ _ iv _ => E.length - (intOf iv).toNat)
  case atStart => exact ⟨0, [], by omega, rfl, rfl, rfl, GI, hJ1, Lib.hid (Kt.refl _ _ _)⟩
  case round =>
    obtain ⟨i, pre, hi, rfl, rfl, rfl, hm, hJs, hk⟩ := hrel
    have RE := Lib.hid (hk.out.rowE HO.out R1.out)
    by_cases lt : i < E.length
    · have e0 : decide ((i : Int) < (E.length : Int)) = true := by rw [decide_eq_true_iff]; omega
      have wi : IntKind.i64.wrap ((i : Int) + 1) = (i : Int) + 1 := by rw [IntKind.wrap_i64]; omega
      have BA := Lib.hid (Bk.step_who OA.out OB.out HS.out HP.out lt)
      have GS := Lib.hid (Bk.grp_step lt)
      have S0 := Bk.perm_small HP.out i
      have S1 := Bk.perm_small HP.out (i + 1)
      have TA := sm_take (·.2.1) lt
      have TB := sm_take (·.2.2) lt
      obtain ⟨b', o, e', c1, c2, c3⟩ := RE.out.at lt
      subst e'
      have NX := Lib.hid (fun (h : i + 1 < E.length) => RE.out.at h)
      have SK := Lib.hid (fun h e => Bk.grp_skip (E := E) (i := i) h e)
      obtain ⟨x, hx⟩ : ∃ x, E.getD i (0, 0, 0) = x := ⟨_, rfl⟩
      rw [hx] at c1 c2 c3 TA TB BA GS SK
      obtain ⟨x1, xa, xb⟩ := x
      simp only at c1 c2 c3 TA TB
      obtain ⟨sa, hsa⟩ : ∃ s, Bk.sm (·.2.1) (E.take i) = s := ⟨_, rfl⟩
      obtain ⟨sb, hsb⟩ : ∃ s, Bk.sm (·.2.2) (E.take i) = s := ⟨_, rfl⟩
      obtain ⟨sa', hsa'⟩ : ∃ s, Bk.sm (·.2.1) (E.take (i + 1)) = s := ⟨_, rfl⟩
      obtain ⟨sb', hsb'⟩ : ∃ s, Bk.sm (·.2.2) (E.take (i + 1)) = s := ⟨_, rfl⟩
      rw [hsa, hsb] at S0
      rw [hsa', hsb'] at S1
      rw [hsa, hsa'] at TA
      rw [hsb, hsb'] at TB
      rw [hsa, hsb]
      have wa : IntKind.i64.wrap (sa + xa) = sa' := by rw [IntKind.wrap_i64]; omega
      have wb : IntKind.i64.wrap (sb + xb) = sb' := by rw [IntKind.wrap_i64]; omega
      have HSA := Lib.hid hsa'
      have HSB := Lib.hid hsb'
      obtain ⟨p, hpp⟩ : ∃ p, decide (Bk.has a x1) = p := ⟨_, rfl⟩
      obtain ⟨q, hqq⟩ : ∃ q, decide (Bk.has b x1) = q := ⟨_, rfl⟩
      have HPP := Lib.hid hpp
      have HQQ := Lib.hid hqq
      clear hx hsa hsb hsa' hsb' TA TB S0 S1 hpp hqq
      by_cases lt2 : i + 1 < E.length
      · have e2 : decide ((i : Int) + 1 < (E.length : Int)) = true := by rw [decide_eq_true_iff]; omega
        obtain ⟨b2, o2, e', d1, _, _⟩ := NX.out lt2
        cases e'
        obtain ⟨y, hy0⟩ : ∃ y, (E.getD (i + 1) (0, 0, 0)).1 = y := ⟨_, rfl⟩
        rw [hy0] at d1 BA GS SK
        have d2 := Lib.cell?_alloc_some (.cells #[.int .i64 x1, .int .i64 xa, .int .i64 xb] 82) d1
        clear hy0
        by_cases eq : y = x1
        · have t1 : (y == x1) = true := by rw [beq_iff_eq]; exact eq
          have HM : Hid (Bk.bor a b = pre ++ (Bk.grp (E.drop (i + 1))).map (Bk.borT a b)) := Lib.hid (by rw [hm.out, SK.out lt2 eq])
          clear eq hm
          gi_wp2
          gi_quiet (fail)
          gi_wp2
          go_roundw
          case rel => exact ⟨i + 1, pre, by omega, by first | rfl | go_num, by rw [HSA.out], by rw [HSB.out], HM, abides_drewN hJ (abides_alloc hJ hJs _) _, Lib.hid ((hk.out.alloc HN1.out _).drewN _)⟩
          case measure => simp [intOf] <;> omega
        · have t1 : (y == x1) = false := by rw [beq_eq_false_iff_ne]; exact eq
          have NE := Lib.hid eq
          clear eq
          have pa : decide (0 < sa') = p := by rw [← HPP.out, decide_eq_decide, ← HSA.out, (BA.out (fun _ => NE.out)).1]
          have pb : decide (0 < sb') = q := by rw [← HQQ.out, decide_eq_decide, ← HSB.out, (BA.out (fun _ => NE.out)).2]
          have HM : Hid (Bk.bor a b = pre ++ (x1, p, q) :: (Bk.grp (E.drop (i + 1))).map (Bk.borT a b)) := Lib.hid (by
            rw [hm.out, GS.out (fun _ => NE.out), List.map_cons]
            show pre ++ (x1, decide (Bk.has a x1), decide (Bk.has b x1)) :: _ = _
            rw [HPP.out, HQQ.out])
          clear hm
          gi_wp2
          gi_quiet (fail)
          have hlen : pre.length < (Bk.bor a b).length := by rw [HM.out]; simp
          have K2 := Lib.hid ((hk.out.alloc HN1.out (.cells #[.int .i64 x1, .int .i64 xa, .int .i64 xb] 82)).drewN nq)
          obtain ⟨fn, tmps, assign, body, hy, hR⟩ := HY.out pre (x1, p, q) _ (abides_drewN hJ (abides_alloc hJ hJs (.cells #[.int .i64 x1, .int .i64 xa, .int .i64 xb] 82)) nq) hlen
          simp only [mgV] at hy
          clear hlen hJs hk
          gi_wp2
          refine hR.mono ?_
          rintro e W3 (⟨rfl, hJ3, hk3⟩ | ⟨rfl, hJx3⟩)
          · have K3 := Lib.hid (K2.out.trans hk3)
            clear hk3 hR hy
            gi_wp2
            go_roundw
            case rel => exact ⟨i + 1, pre ++ [(x1, p, q)], by omega, by first | rfl | go_num, by rw [HSA.out], by rw [HSB.out], Lib.hid (by rw [HM.out, List.append_assoc]; rfl), hJ3, K3⟩
            case measure => simp [intOf] <;> omega
          · clear hR hy
            gi_wp2
            refine bodyPost_ret (results_none rfl _ _ _) rfl ?_
            exact ⟨⟨_, rfl⟩, .inr ⟨pre ++ [(x1, p, q)], ⟨_, by rw [HM.out, List.append_assoc]; rfl⟩, hJx3⟩⟩
      · have e2 : decide ((i : Int) + 1 < (E.length : Int)) = false := by rw [decide_eq_false_iff_not]; omega
        have NE := Lib.hid lt2
        have pa : decide (0 < sa') = p := by rw [← HPP.out, decide_eq_decide, ← HSA.out, (BA.out (fun h => absurd h NE.out)).1]
        have pb : decide (0 < sb') = q := by rw [← HQQ.out, decide_eq_decide, ← HSB.out, (BA.out (fun h => absurd h NE.out)).2]
        have HM : Hid (Bk.bor a b = pre ++ (x1, p, q) :: (Bk.grp (E.drop (i + 1))).map (Bk.borT a b)) := Lib.hid (by
          rw [hm.out, GS.out (fun h => absurd h NE.out), List.map_cons]
          show pre ++ (x1, decide (Bk.has a x1), decide (Bk.has b x1)) :: _ = _
          rw [HPP.out, HQQ.out])
        clear hm
        gi_wp2
        gi_quiet (fail)
        have hlen : pre.length < (Bk.bor a b).length := by rw [HM.out]; simp
        have K2 := Lib.hid ((hk.out.alloc HN1.out (.cells #[.int .i64 x1, .int .i64 xa, .int .i64 xb] 82)).drewN nq)
        obtain ⟨fn, tmps, assign, body, hy, hR⟩ := HY.out pre (x1, p, q) _ (abides_drewN hJ (abides_alloc hJ hJs (.cells #[.int .i64 x1, .int .i64 xa, .int .i64 xb] 82)) nq) hlen
        simp only [mgV] at hy
        clear hlen hJs hk
        gi_wp2
        refine hR.mono ?_
        rintro e W3 (⟨rfl, hJ3, hk3⟩ | ⟨rfl, hJx3⟩)
        · have K3 := Lib.hid (K2.out.trans hk3)
          clear hk3 hR hy
          gi_wp2
          go_roundw
          case rel => exact ⟨i + 1, pre ++ [(x1, p, q)], by omega, by first | rfl | go_num, by rw [HSA.out], by rw [HSB.out], Lib.hid (by rw [HM.out, List.append_assoc]; rfl), hJ3, K3⟩
          case measure => simp [intOf] <;> omega
        · clear hR hy
          gi_wp2
          refine bodyPost_ret (results_none rfl _ _ _) rfl ?_
          exact ⟨⟨_, rfl⟩, .inr ⟨pre ++ [(x1, p, q)], ⟨_, by rw [HM.out, List.append_assoc]; rfl⟩, hJx3⟩⟩
    · have e0 : decide ((i : Int) < (E.length : Int)) = false := by rw [decide_eq_false_iff_not]; omega
      obtain rfl : i = E.length := by omega
      have HM : Hid (Bk.bor a b = pre) := Lib.hid (by rw [hm.out, List.drop_length]; simp [Bk.grp])
      clear hm lt hi
      gi_wp2
      go_end0
      exact ⟨⟨_, rfl⟩, .inl ⟨pre, HM.out.symm, hJs⟩⟩
end
end Go.Proofs.Ytodjipbkeddbcaa
