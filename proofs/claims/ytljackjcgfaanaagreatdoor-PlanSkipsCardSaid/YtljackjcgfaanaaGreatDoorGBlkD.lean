/- Contracts of borders of package blackout and of the iterator that it returns. Contract of combine of package blackout. Contracts of Union, Meet, Without, Normal, Length of package blackout. -/
import Derived.RangeFuncBox
import Derived.RangeFuncLeaves
import Derived.RangeFuncNested
import Derived.Maps.OwnIn
import Derived.OwnWalkIn
import Derived.TacticsInMore
import Derived.LoopNIn
import Derived.LoopIn
import Derived.Sort.QuietIn
import Derived.Lib.SliceRun
import Derived.Test.YtljackjcgfaanaaGreatDoorBlkC
/- Contracts of borders of package blackout and of the iterator that it returns. -/
namespace Go.Proofs.YtljackjcgfaanaaGreatDoor.Bo
open Go.ChangeShapes Go.RowKit Go.Shelf

/-- what a round keeps: what lay ahead of the iterator, but for the caller's own boxes, and all cells but rows of spans -/
structure Kt (own : Nat → Prop) (n₀ : Nat) (A B : World) : Prop where
  size : A.heap.size ≤ B.heap.size
  old : ∀ b, b < n₀ → ¬ own b → B.heap[b]? = A.heap[b]?
  keep : ∀ b c t f, ¬ own b → A.heap[b]? = some (.cells c t f) → t ≠ 48 → B.heap[b]? = some (.cells c t f)
theorem Kt.refl (own : Nat → Prop) (n₀ : Nat) (A : World) : Kt own n₀ A A := ⟨Nat.le_refl _, fun _ _ _ => rfl, fun _ _ _ _ _ h _ => h⟩
theorem Kt.trans {own : Nat → Prop} {n₀ : Nat} {A B C : World} (h : Kt own n₀ A B) (k : Kt own n₀ B C) : Kt own n₀ A C :=
  ⟨Nat.le_trans h.size k.size, fun b hb ho => (k.old b hb ho).trans (h.old b hb ho), fun b c t f ho q ht => k.keep b c t f ho (h.keep b c t f ho q ht) ht⟩
theorem Kt.put {own : Nat → Prop} {n₀ : Nat} (W : World) (l : Nat) (o o' : Obj) (hn : n₀ ≤ l) (hl : W.heap[l]? = some o) (ho : o.isCells = false) : Kt own n₀ W (W.putObj l o') :=
  ⟨by simp, fun b hb _ => World.putObj_heap_other (by omega), fun b c t f _ q _ => by
    by_cases e : b = l
    · subst e; rw [hl] at q; cases q; cases ho
    · exact (World.putObj_heap_other e).trans q⟩
theorem Kt.book {own : Nat → Prop} {n₀ : Nat} {w : World} (hn : n₀ ≤ w.heap.size) : ∀ (W : World) (l : Nat) (o o' : Obj), w.heap.size ≤ l → W.heap[l]? = some o → o.isCells = false → o.isWalk = false → Kt own n₀ W (W.putObj l o') :=
  fun W l o o' hl h hc _ => Kt.put W l o o' (Nat.le_trans hn hl) h hc
theorem Kt.of_below {own : Nat → Prop} {n₀ : Nat} {W W' : World} (h : Below W.heap.size W W') (hn : n₀ ≤ W.heap.size) : Kt own n₀ W W' :=
  ⟨h.size, fun b hb _ => h.block b (by omega), fun b _ _ _ _ q _ => (h.block b (Array.getElem?_eq_some_iff.1 q).1).trans q⟩
theorem Kt.drewN {own : Nat → Prop} {n₀ : Nat} {A B : World} (h : Kt own n₀ A B) (m : Nat) : Kt own n₀ A (B.drewN m) := ⟨h.size, h.old, h.keep⟩
theorem Kt.alloc {own : Nat → Prop} {n₀ : Nat} {A B : World} (h : Kt own n₀ A B) (hn : n₀ ≤ A.heap.size) (o : Obj) : Kt own n₀ A (B.alloc o) :=
  h.trans (Kt.of_below ((Below.refl _ _).alloc (Nat.le_refl _) _) (Nat.le_trans hn h.size))
theorem Kt.cell {own : Nat → Prop} {n₀ : Nat} {A B : World} (h : Kt own n₀ A B) {p : Addr} (hp : p.block < n₀) (ho : ¬ own p.block) : B.cell? p = A.cell? p := World.cell?_of_block (h.old p.block hp ho)
theorem Kt.rowS {own : Nat → Prop} {n₀ : Nat} {V A B : World} {v : Value} {l : List (Int × Int)} (h : Kt own n₀ A B) (hV : Below V.heap.size V A) (ho : ∀ b, own b → V.heap.size ≤ b) (hn : V.heap.size ≤ n₀) (r : RowS V v l) : RowS B v l := by
  obtain ⟨h0, hz, C, cap, e, c⟩ := r
  refine ⟨h0, hz, C, cap, e, fun j hj => ?_⟩
  obtain ⟨b, o, e1, e2, e3⟩ := c j hj
  have hb := lt_of_cell e2
  refine ⟨b, o, e1, ?_, ?_⟩
  · rw [h.cell (p := ⟨b, o + j * 2, none⟩) (by show b < n₀; omega) (fun q => by have := ho b q; omega), hV.cell (p := ⟨b, o + j * 2, none⟩) hb]
    exact e2
  · rw [h.cell (p := ⟨b, o + j * 2 + 1, none⟩) (by show b < n₀; omega) (fun q => by have := ho b q; omega), hV.cell (p := ⟨b, o + j * 2 + 1, none⟩) hb]
    exact e3
theorem Kt.rowE {own : Nat → Prop} {n₀ : Nat} {A B : World} {v : Value} {l : List (Int × Int × Int)} (h : Kt own n₀ A B) (ho : ∀ b, own b → b < n₀) (r : RowE n₀ A v l) : RowE n₀ B v l := by
  obtain ⟨h0, C, cap, e, c⟩ := r
  refine ⟨h0, C, cap, e, fun j hj => ?_⟩
  obtain ⟨b, o, e1, ⟨e2, cc, f, e3⟩, k1, k2, k3⟩ := c j hj
  have q := h.keep b cc _ f (fun q => by have := ho b q; omega) e3 (by decide)
  have hc : ∀ i, B.cell? ⟨b, i, none⟩ = A.cell? ⟨b, i, none⟩ := fun i => World.cell?_of_block (q.trans e3.symm)
  exact ⟨b, o, e1, ⟨e2, cc, f, q⟩, (hc _).trans k1, (hc _).trans k2, (hc _).trans k3⟩
theorem grown_drewN (W : World) (n : Nat) : W.grownBy (W.drewN n) none := ⟨rfl, rfl, rfl, Nat.le_refl _, fun _ _ _ => rfl⟩
theorem abides_drewN {β : Type} {B : Nat} {J : β → World → Prop} (h : AbidesFrom B J) {s : β} {W : World} (hs : J s W) (n : Nat) : J s (W.drewN n) :=
  h s W _ none hs (grown_drewN W n) (fun _ e => by cases e)
theorem abides_alloc {β : Type} {B : Nat} {J : β → World → Prop} (h : AbidesFrom B J) {s : β} {W : World} (hs : J s W) (o : Obj) : J s (W.alloc o) :=
  h s W _ none hs (World.grownBy_alloc W o none) (fun _ e => by cases e)
theorem abides_below {β : Type} {B : Nat} {J : β → World → Prop} (h : AbidesFrom B J) {s : β} {W W' : World} (hs : J s W) (hb : Below W.heap.size W W') : J s W' :=
  h s W _ none hs ⟨hb.os, hb.tape, hb.output, hb.size, fun k hk _ => hb.block k hk⟩ (fun _ e => by cases e)
theorem RowE.at {n : Nat} {W : World} {A : Option Addr} {m cap : Nat} {l : List (Int × Int × Int)} (h : RowE n W (.slice A m cap) l) {j : Nat} (hj : j < l.length) : ∃ b o, A = some ⟨b, o, none⟩ ∧ W.cell? ⟨b, o + j * 3, none⟩ = some (.int .i64 (l.getD j (0, 0, 0)).1) ∧ W.cell? ⟨b, o + j * 3 + 1, none⟩ = some (.int .i64 (l.getD j (0, 0, 0)).2.1) ∧ W.cell? ⟨b, o + j * 3 + 2, none⟩ = some (.int .i64 (l.getD j (0, 0, 0)).2.2) := by
  obtain ⟨_, A', cap', e, h⟩ := h
  cases e
  obtain ⟨b, o, e1, _, k⟩ := h j hj
  exact ⟨b, o, e1, k⟩
theorem sm_take (f : Int × Int × Int → Int) {E : List (Int × Int × Int)} {i : Nat} (h : i < E.length) : Bk.sm f (E.take (i + 1)) = Bk.sm f (E.take i) + f (E.getD i (0, 0, 0)) := by
  rw [Bk.take_snoc h, Bk.sm_append]
  simp [Bk.sm]
/-- a border with who has the times from there on, as Go has it -/
def mgV (x : Int × Bool × Bool) : Array Value := #[.int .i64 x.1, .agg #[.bool x.2.1, .bool x.2.2]]

section
attribute [local go_sem] Oper.semAt_some
set_option maxRecDepth 100000 in
set_option maxHeartbeats 4000000 in
theorem iter_in (n : Nat) (hn : 3 ≤ n) (l Ba Bb : Nat) (va vb : Value) (a b : List (Int × Int)) (oka : Bk.OkL a) (okb : Bk.OkL b) (own : Nat → Prop) (n₀ : Nat) (V w : World) (B : Nat) (J Jx : List (Int × Bool × Bool) → World → Prop) (hJ : AbidesFrom B J)
    (hw : n₀ = w.heap.size) (hV : Below V.heap.size V w) (hown : ∀ b, own b → V.heap.size ≤ b ∧ b < n₀) (ra : RowS V va a) (rb : RowS V vb b) (hBa : Ba < n₀) (hBb : Bb < n₀) (oa : ¬ own Ba) (ob : ¬ own Bb)
    (ca : w.cell? ⟨Ba, 0, none⟩ = some va) (cb : w.cell? ⟨Bb, 0, none⟩ = some vb)
    (hY : ∀ pre x W, J pre W → pre.length < (Bk.bor a b).length → YieldAt Fence.wide (n - 1) Tryz.prog l (mgV x) W fun e W' =>
      (e = .returned (.bool true) ∧ J (pre ++ [x]) W' ∧ Kt own n₀ W W') ∨ (e = .returned (.bool false) ∧ Jx (pre ++ [x]) W'))
    (W : World) (hW : Below w.heap.size w W) (h0 : J [] W) :
    CallsIn Fence.wide n Tryz.prog 135 #[.func (.yield l) #[] #[], .pointer (some ⟨Ba, 0, none⟩), .pointer (some ⟨Bb, 0, none⟩)] W fun e W' => (∃ v, e = .returned v) ∧
      ((∃ ys, ys = Bk.bor a b ∧ J ys W') ∨ (∃ pre, pre <+: Bk.bor a b ∧ Jx pre W')) := by
  have h1 : 1 ≤ n := by omega
  have K0 : Hid (Kt own n₀ w W) := Lib.hid (Kt.of_below hW (Nat.le_of_eq hw))
  have RA := Lib.hid (K0.out.rowS hV (fun b q => (hown b q).1) (by rw [hw]; exact hV.size) ra)
  have RB := Lib.hid (K0.out.rowS hV (fun b q => (hown b q).1) (by rw [hw]; exact hV.size) rb)
  have CA := (K0.out.cell (p := ⟨Ba, 0, none⟩) hBa oa).trans ca
  have CB := (K0.out.cell (p := ⟨Bb, 0, none⟩) hBb ob).trans cb
  have HY := Lib.hid hY
  have HO := Lib.hid (fun b (q : own b) => (hown b q).2)
  have HN := Lib.hid (show n₀ ≤ W.heap.size by rw [hw]; exact hW.size)
  have OA := Lib.hid oka.2
  have OB := Lib.hid okb.2
  have EC := Lib.hid (edges_any va vb a b oka okb W RA.out RB.out)
  have EL := Bk.edgesL_len a b
  have LA := oka.1
  have LB := okb.1
  obtain ⟨A1, cap1, rfl⟩ := ra.len
  obtain ⟨A2, cap2, rfl⟩ := rb.len
  clear hY oka okb hown hW hw ca cb hV ra rb
  refine callsIn_of_wp Tryz.func135 rfl trivial ?_ rfl
  simp only [Tryz.ntmps135, List.size_toArray, List.length_cons, List.length_nil, Nat.reduceAdd, Nat.reduceSub, Array.replicate_succ, Array.replicate_zero, List.push_toArray, List.append_toArray, List.nil_append, List.cons_append]
  gi_wp2_with (refine ⟨trivial, ?_⟩; gi_at_call 136; refine (callsIn_wide.2 EC.out).mono ?_; rintro e W1 ⟨v, E, rfl, hp, hs, hr, hb⟩)
  have HP := Lib.hid hp
  have HS := Lib.hid hs
  have LE : E.length ≤ 256 := by have := hp.length_eq; omega
  have hJ1 := abides_below hJ h0 hb
  have K1 : Hid (Kt own n₀ W W1) := Lib.hid (Kt.of_below hb HN.out)
  have R1 : Hid (RowE n₀ W1 v E) := Lib.hid (by
    obtain ⟨q0, A, cap, e, c⟩ := hr
    refine ⟨q0, A, cap, e, fun j hj => ?_⟩
    obtain ⟨b', o, e1, ⟨e2, e3⟩, k⟩ := c j hj
    exact ⟨b', o, e1, ⟨by have := HN.out; omega, e3⟩, k⟩)
  have GI : Hid (Bk.bor a b = (Bk.grp E).map (Bk.borT a b)) := Lib.hid (by rw [Bk.grp_is hs hp]; rfl)
  have HN1 := Lib.hid (show n₀ ≤ W1.heap.size by have := HN.out; have := hb.size; omega)
  obtain ⟨A, cap, rfl⟩ := hr.len
  clear hr hp hs hb h0 CA CB
  gi_wp2
  go_simp
  gi_wp2
  gi_loopw [5, 6, 14] (fun av bv iv wr => ∃ (i : Nat) (pre : List (Int × Bool × Bool)), i ≤ E.length ∧ iv = .int .i64 i ∧ av = .int .i64 (Bk.sm (·.2.1) (E.take i)) ∧ bv = .int .i64 (Bk.sm (·.2.2) (E.take i)) ∧ Hid (Bk.bor a b = pre ++ (Bk.grp (E.drop i)).map (Bk.borT a b)) ∧ J pre wr ∧ Hid (Kt own n₀ W1 wr)) (fun _ _ iv _ => E.length - (intOf iv).toNat)
  case atStart => exact ⟨0, [], by omega, rfl, rfl, rfl, GI, hJ1, Lib.hid (Kt.refl _ _ _)⟩
  case round =>
    obtain ⟨i, pre, hi, rfl, rfl, rfl, hm, hJs, hk⟩ := hrel
    have RE := Lib.hid (hk.out.rowE HO.out R1.out)
    by_cases lt : i < E.length
    · have e0 : decide ((i : Int) < (E.length : Int)) = true := by rw [decide_eq_true_iff]; omega
      have wi : IntKind.i64.wrap ((i : Int) + 1) = (i : Int) + 1 := by rw [IntKind.wrap_i64]; omega
      have BA := Lib.hid (Bk.step_who OA.out OB.out HS.out HP.out lt)
      have GS := Lib.hid (Bk.grp_step lt)
      have S0 := Bk.perm_small HP.out i
      have S1 := Bk.perm_small HP.out (i + 1)
      have TA := sm_take (·.2.1) lt
      have TB := sm_take (·.2.2) lt
      obtain ⟨b', o, e', c1, c2, c3⟩ := RE.out.at lt
      subst e'
      have NX := Lib.hid (fun (h : i + 1 < E.length) => RE.out.at h)
      have SK := Lib.hid (fun h e => Bk.grp_skip (E := E) (i := i) h e)
      obtain ⟨x, hx⟩ : ∃ x, E.getD i (0, 0, 0) = x := ⟨_, rfl⟩
      rw [hx] at c1 c2 c3 TA TB BA GS SK
      obtain ⟨x1, xa, xb⟩ := x
      simp only at c1 c2 c3 TA TB
      obtain ⟨sa, hsa⟩ : ∃ s, Bk.sm (·.2.1) (E.take i) = s := ⟨_, rfl⟩
      obtain ⟨sb, hsb⟩ : ∃ s, Bk.sm (·.2.2) (E.take i) = s := ⟨_, rfl⟩
      obtain ⟨sa', hsa'⟩ : ∃ s, Bk.sm (·.2.1) (E.take (i + 1)) = s := ⟨_, rfl⟩
      obtain ⟨sb', hsb'⟩ : ∃ s, Bk.sm (·.2.2) (E.take (i + 1)) = s := ⟨_, rfl⟩
      rw [hsa, hsb] at S0
      rw [hsa', hsb'] at S1
      rw [hsa, hsa'] at TA
      rw [hsb, hsb'] at TB
      rw [hsa, hsb]
      have wa : IntKind.i64.wrap (sa + xa) = sa' := by rw [IntKind.wrap_i64]; omega
      have wb : IntKind.i64.wrap (sb + xb) = sb' := by rw [IntKind.wrap_i64]; omega
      have HSA := Lib.hid hsa'
      have HSB := Lib.hid hsb'
      obtain ⟨p, hpp⟩ : ∃ p, decide (Bk.has a x1) = p := ⟨_, rfl⟩
      obtain ⟨q, hqq⟩ : ∃ q, decide (Bk.has b x1) = q := ⟨_, rfl⟩
      have HPP := Lib.hid hpp
      have HQQ := Lib.hid hqq
      clear hx hsa hsb hsa' hsb' TA TB S0 S1 hpp hqq
      by_cases lt2 : i + 1 < E.length
      · have e2 : decide ((i : Int) + 1 < (E.length : Int)) = true := by rw [decide_eq_true_iff]; omega
        obtain ⟨b2, o2, e', d1, _, _⟩ := NX.out lt2
        cases e'
        obtain ⟨y, hy0⟩ : ∃ y, (E.getD (i + 1) (0, 0, 0)).1 = y := ⟨_, rfl⟩
        rw [hy0] at d1 BA GS SK
        have d2 := Lib.cell?_alloc_some (.cells #[.int .i64 x1, .int .i64 xa, .int .i64 xb] 162) d1
        clear hy0
        by_cases eq : y = x1
        · have t1 : (y == x1) = true := by rw [beq_iff_eq]; exact eq
          have HM : Hid (Bk.bor a b = pre ++ (Bk.grp (E.drop (i + 1))).map (Bk.borT a b)) := Lib.hid (by rw [hm.out, SK.out lt2 eq])
          clear eq hm
          gi_wp2
          gi_quiet (fail)
          gi_wp2
          go_roundw
          case rel => exact ⟨i + 1, pre, by omega, by first | rfl | go_num, by rw [HSA.out], by rw [HSB.out], HM, abides_drewN hJ (abides_alloc hJ hJs _) _, Lib.hid ((hk.out.alloc HN1.out _).drewN _)⟩
          case measure => simp [intOf] <;> omega
        · have t1 : (y == x1) = false := by rw [beq_eq_false_iff_ne]; exact eq
          have NE := Lib.hid eq
          clear eq
          have pa : decide (0 < sa') = p := by rw [← HPP.out, decide_eq_decide, ← HSA.out, (BA.out (fun _ => NE.out)).1]
          have pb : decide (0 < sb') = q := by rw [← HQQ.out, decide_eq_decide, ← HSB.out, (BA.out (fun _ => NE.out)).2]
          have HM : Hid (Bk.bor a b = pre ++ (x1, p, q) :: (Bk.grp (E.drop (i + 1))).map (Bk.borT a b)) := Lib.hid (by
            rw [hm.out, GS.out (fun _ => NE.out), List.map_cons]
            show pre ++ (x1, decide (Bk.has a x1), decide (Bk.has b x1)) :: _ = _
            rw [HPP.out, HQQ.out])
          clear hm
          gi_wp2
          gi_quiet (fail)
          have hlen : pre.length < (Bk.bor a b).length := by rw [HM.out]; simp
          have K2 := Lib.hid ((hk.out.alloc HN1.out (.cells #[.int .i64 x1, .int .i64 xa, .int .i64 xb] 162)).drewN nq)
          obtain ⟨fn, tmps, assign, body, hy, hR⟩ := HY.out pre (x1, p, q) _ (abides_drewN hJ (abides_alloc hJ hJs (.cells #[.int .i64 x1, .int .i64 xa, .int .i64 xb] 162)) nq) hlen
          simp only [mgV] at hy
          clear hlen hJs hk
          gi_wp2
          refine hR.mono ?_
          rintro e W3 (⟨rfl, hJ3, hk3⟩ | ⟨rfl, hJx3⟩)
          · have K3 := Lib.hid (K2.out.trans hk3)
            clear hk3 hR hy
            gi_wp2
            go_roundw
            case rel => exact ⟨i + 1, pre ++ [(x1, p, q)], by omega, by first | rfl | go_num, by rw [HSA.out], by rw [HSB.out], Lib.hid (by rw [HM.out, List.append_assoc]; rfl), hJ3, K3⟩
            case measure => simp [intOf] <;> omega
          · clear hR hy
            gi_wp2
            refine bodyPost_ret (results_none rfl _ _ _) rfl ?_
            exact ⟨⟨_, rfl⟩, .inr ⟨pre ++ [(x1, p, q)], ⟨_, by rw [HM.out, List.append_assoc]; rfl⟩, hJx3⟩⟩
      · have e2 : decide ((i : Int) + 1 < (E.length : Int)) = false := by rw [decide_eq_false_iff_not]; omega
        have NE := Lib.hid lt2
        have pa : decide (0 < sa') = p := by rw [← HPP.out, decide_eq_decide, ← HSA.out, (BA.out (fun h => absurd h NE.out)).1]
        have pb : decide (0 < sb') = q := by rw [← HQQ.out, decide_eq_decide, ← HSB.out, (BA.out (fun h => absurd h NE.out)).2]
        have HM : Hid (Bk.bor a b = pre ++ (x1, p, q) :: (Bk.grp (E.drop (i + 1))).map (Bk.borT a b)) := Lib.hid (by
          rw [hm.out, GS.out (fun h => absurd h NE.out), List.map_cons]
          show pre ++ (x1, decide (Bk.has a x1), decide (Bk.has b x1)) :: _ = _
          rw [HPP.out, HQQ.out])
        clear hm
        gi_wp2
        gi_quiet (fail)
        have hlen : pre.length < (Bk.bor a b).length := by rw [HM.out]; simp
        have K2 := Lib.hid ((hk.out.alloc HN1.out (.cells #[.int .i64 x1, .int .i64 xa, .int .i64 xb] 162)).drewN nq)
        obtain ⟨fn, tmps, assign, body, hy, hR⟩ := HY.out pre (x1, p, q) _ (abides_drewN hJ (abides_alloc hJ hJs (.cells #[.int .i64 x1, .int .i64 xa, .int .i64 xb] 162)) nq) hlen
        simp only [mgV] at hy
        clear hlen hJs hk
        gi_wp2
        refine hR.mono ?_
        rintro e W3 (⟨rfl, hJ3, hk3⟩ | ⟨rfl, hJx3⟩)
        · have K3 := Lib.hid (K2.out.trans hk3)
          clear hk3 hR hy
          gi_wp2
          go_roundw
          case rel => exact ⟨i + 1, pre ++ [(x1, p, q)], by omega, by first | rfl | go_num, by rw [HSA.out], by rw [HSB.out], Lib.hid (by rw [HM.out, List.append_assoc]; rfl), hJ3, K3⟩
          case measure => simp [intOf] <;> omega
        · clear hR hy
          gi_wp2
          refine bodyPost_ret (results_none rfl _ _ _) rfl ?_
          exact ⟨⟨_, rfl⟩, .inr ⟨pre ++ [(x1, p, q)], ⟨_, by rw [HM.out, List.append_assoc]; rfl⟩, hJx3⟩⟩
    · have e0 : decide ((i : Int) < (E.length : Int)) = false := by rw [decide_eq_false_iff_not]; omega
      obtain rfl : i = E.length := by omega
      have HM : Hid (Bk.bor a b = pre) := Lib.hid (by rw [hm.out, List.drop_length]; simp [Bk.grp])
      clear hm lt hi
      gi_wp2
      go_end0
      exact ⟨⟨_, rfl⟩, .inl ⟨pre, HM.out.symm, hJs⟩⟩
end
end Go.Proofs.YtljackjcgfaanaaGreatDoor.Bo
/- Contract of combine of package blackout. -/
namespace Go.Proofs.YtljackjcgfaanaaGreatDoor.Bk
/-- as step, run; the end of a span as Go reckons it, for any times -/
def stepW (s : St) (t : Int) (p : Bool) : St := if p = s.ins then s else if s.ins = true then ⟨s.out ++ [(s.fr, IntKind.i64.wrap (t - 1))], false, t⟩ else ⟨s.out, true, t⟩
def runW (f : Bool → Bool → Bool) : List (Int × Bool × Bool) → St → St
  | [], s => s
  | x :: r, s => runW f r (stepW s x.1 (f x.2.1 x.2.2))
theorem runW_snoc (f : Bool → Bool → Bool) (l : List (Int × Bool × Bool)) (x : Int × Bool × Bool) (s : St) : runW f (l ++ [x]) s = stepW (runW f l s) x.1 (f x.2.1 x.2.2) := by
  induction l generalizing s with
  | nil => rfl
  | cons y r ih => simp only [List.cons_append, runW, ih]
theorem stepW_len (s : St) (t : Int) (p : Bool) : (stepW s t p).out.length ≤ s.out.length + 1 := by
  unfold stepW
  split
  · omega
  · split
    · simp
    · simp
theorem runW_len (f : Bool → Bool → Bool) : ∀ (l : List (Int × Bool × Bool)) (s : St), (runW f l s).out.length ≤ s.out.length + l.length
  | [], s => by simp [runW]
  | x :: r, s => by
    have := runW_len f r (stepW s x.1 (f x.2.1 x.2.2))
    have := stepW_len s x.1 (f x.2.1 x.2.2)
    simp only [runW, List.length_cons]
    omega
theorem runW_is (f : Bool → Bool → Bool) : ∀ {l : List (Int × Bool × Bool)} (s : St), (∀ x ∈ l, IntKind.i64.wrap (x.1 - 1) = x.1 - 1) → runW f l s = run f l s
  | [], s, _ => rfl
  | x :: r, s, h => by
    have e : stepW s x.1 (f x.2.1 x.2.2) = step s x.1 (f x.2.1 x.2.2) := by
      unfold stepW step
      rw [h x List.mem_cons_self]
    simp only [runW, run, e]
    exact runW_is f _ (fun y hy => h y (List.mem_cons_of_mem _ hy))
theorem bor_wrap {a b : List (Int × Int)} (ha : OkS a) (hb : OkS b) : ∀ x ∈ bor a b, IntKind.i64.wrap (x.1 - 1) = x.1 - 1 := by
  intro x hx
  obtain ⟨t, ht, rfl⟩ := List.mem_map.1 hx
  rw [bords_mem] at ht
  rcases ht with h | ⟨y, hy, h⟩
  · simp at h
  · have o := (ha.append hb) y hy
    unfold okT at o
    show IntKind.i64.wrap (t - 1) = t - 1
    rw [IntKind.wrap_i64]
    omega
end Go.Proofs.YtljackjcgfaanaaGreatDoor.Bk
namespace Go.Proofs.YtljackjcgfaanaaGreatDoor.Bo
open Go.ChangeShapes Go.RowKit Go.Shelf

theorem borders_any (A1 A2 : Option Addr) (n1 c1 n2 c2 : Nat) (va vb : Value) (ea : va = .slice A1 n1 c1) (eb : vb = .slice A2 n2 c2) (w : World) :
    Calls Tryz.prog 119 #[va, vb] w fun e w' => e = .returned (.func (.func 135) #[] #[.pointer (some ⟨w.heap.size, 0, none⟩), .pointer (some ⟨w.heap.size + 1, 0, none⟩)]) ∧
      Boxed w' w.heap.size 27 va ∧ Boxed w' (w.heap.size + 1) 27 vb ∧ Below w.heap.size w w' ∧ w'.heap.size = w.heap.size + 2 := by
  subst ea eb
  obtain ⟨va, ea⟩ : ∃ v : Value, Value.slice A1 n1 c1 = v := ⟨_, rfl⟩
  obtain ⟨vb, eb⟩ : ∃ v : Value, Value.slice A2 n2 c2 = v := ⟨_, rfl⟩
  rw [ea, eb]
  have B1 := Boxed.new w 27 va
  have B2 := Boxed.new (w.alloc (.cells #[va] 27)) 27 vb
  rw [World.size_alloc] at B2
  have F := Lib.hid (And.intro (B1.alloc (.cells #[vb] 27)) (And.intro B2 (((Below.refl _ w).alloc (Nat.le_refl _) (.cells #[va] 27)).alloc (by simp) (.cells #[vb] 27))))
  clear B1 B2
  subst ea eb
  go_enter Tryz.func119, Tryz.ntmps119
  go_wp2_with fail
  go_ret
  exact ⟨rfl, F.out.1, F.out.2.1, F.out.2.2, by simp⟩
theorem borders_stops (own : Nat → Prop) (n : Nat) (hn : 3 ≤ n) (Ba Bb : Nat) (va vb : Value) (a b : List (Int × Int)) (oka : Bk.OkL a) (okb : Bk.OkL b) (V w : World)
    (hV : Below V.heap.size V w) (hown : ∀ b, own b → V.heap.size ≤ b ∧ b < w.heap.size) (ra : RowS V va a) (rb : RowS V vb b) (oa : ¬ own Ba) (ob : ¬ own Bb)
    (ca : Boxed w Ba 27 va) (cb : Boxed w Bb 27 vb) :
    SeqStopsK Fence.wide n Tryz.prog 135 #[.pointer (some ⟨Ba, 0, none⟩), .pointer (some ⟨Bb, 0, none⟩)] mgV (Kt own w.heap.size) (fun ys => ys = Bk.bor a b) (fun pre => pre <+: Bk.bor a b) (Bk.bor a b).length w := fun l J Jx W hW hJ _ hY h0 =>
  iter_in n hn l Ba Bb va vb a b oka okb own w.heap.size V w W.heap.size J Jx hJ rfl hV hown ra rb ca.lt cb.lt oa ob ca.cell cb.cell hY W hW h0
/-- a store into the caller's own box, behind an append to the caller's own row -/
theorem Kt.append {own : Nat → Prop} {n₀ base : Nat} {W w1 : World} {B : Nat} {v v' : Value} {k : Nat} {xs : List Value} {tmp : Obj} (hB : own B) (hb : n₀ ≤ base) (hrow : W.ownsRow base 48 2 v k xs)
    (hgrow : (W.alloc tmp).grownBy w1 v.ownBlock) (hn : n₀ ≤ W.heap.size) : Kt own n₀ W (w1.setCell ⟨B, 0, none⟩ v') := by
  have hs := (grownBy_setCell' w1 B v').size
  have hs2 := hgrow.size
  rw [World.size_alloc] at hs2
  refine ⟨by omega, fun b hb1 ho => ?_, fun b c t f ho q ht => ?_⟩
  · rw [Below.heap_setCell _ _ _ b (fun e => ho (by rw [e]; exact hB))]
    rw [hgrow.block b (by rw [World.size_alloc]; omega) ?_]
    · exact ((Below.refl _ W).alloc (Nat.le_refl _) tmp).block b (by omega)
    · rcases hrow.2 with ⟨rfl, _⟩ | ⟨g, cap, cur, rfl, hg, _⟩
      · simp [Value.ownBlock]
      · intro e
        obtain rfl : b = g := by simpa [Value.ownBlock] using e
        omega
  · have hlt := (Array.getElem?_eq_some_iff.1 q).1
    rw [Below.heap_setCell _ _ _ b (fun e => ho (by rw [e]; exact hB))]
    rw [hgrow.block b (by rw [World.size_alloc]; omega) ?_]
    · exact (((Below.refl _ W).alloc (Nat.le_refl _) tmp).block b hlt).trans q
    · rcases hrow.2 with ⟨rfl, _⟩ | ⟨g, cap, cur, rfl, hg, hgb, _⟩
      · simp [Value.ownBlock]
      · intro e
        obtain rfl : b = g := by simpa [Value.ownBlock] using e
        rw [hgb] at q
        cases q
        exact ht rfl
theorem Kt.set {own : Nat → Prop} {n₀ : Nat} {W : World} {B : Nat} (hB : own B) (v : Value) : Kt own n₀ W (W.setCell ⟨B, 0, none⟩ v) :=
  ⟨(grownBy_setCell' W B v).size, fun b _ ho => Below.heap_setCell _ _ _ b (fun e => ho (by rw [e]; exact hB)), fun b c t f ho q _ => (Below.heap_setCell _ _ _ b (fun e => ho (by rw [e]; exact hB))).trans q⟩
theorem keeps_below {W W' : World} (h : Below W.heap.size W W') : KeepsOthers W W' := ⟨h.size, fun k _ hk _ => (h.block k (Array.getElem?_eq_some_iff.1 hk).1).trans hk⟩
theorem row_free {W : World} {base : Nat} {e : TypeId} {size k : Nat} {v : Value} {xs : List Value} (h : W.ownsRow base e size v k xs) {row : Option Nat} (hr : ∀ r, row = some r → ∃ o : Obj, W.heap[r]? = some o ∧ o.isCells = false) : v.ownBlock = none ∨ v.ownBlock ≠ row := by
  rcases h.2 with ⟨rfl, _⟩ | ⟨g, cap, cur, rfl, _, hgb, _⟩
  · exact .inl rfl
  · refine .inr fun e' => ?_
    obtain ⟨o, ho, hc⟩ := hr g (by simpa [Value.ownBlock] using e'.symm)
    rw [hgb] at ho; cases ho; cases hc

/-- the state between two borders: the result so far, in its box; whether a span is open, and since when; the function that is asked -/
structure CS (w W0 : World) (m G g : Nat) (v : Value) (s : Bk.St) (W : World) : Prop where
  bv : Boxed W m 27 v
  rv : W.ownsRow W0.heap.size 48 2 v s.out.length (s.out.flatMap encS)
  bi : Boxed W (m + 1) 4 (.bool s.ins)
  bf : Boxed W (m + 1 + 1) 2 (.int .i64 s.fr)
  bg : Boxed W G 103 (.func (.func g) #[] #[])
  be : Below w.heap.size w W
  sz : W0.heap.size ≤ W.heap.size
theorem CS.grow {w W0 : World} {m G g : Nat} {v : Value} {s : Bk.St} {base : Nat} {A B : World} {row : Option Nat} (h : CS w W0 m G g v s A) (hb : w.heap.size ≤ base) (hg : A.grownBy B row) (hr : ∀ r, row = some r → base ≤ r ∧ ∃ o : Obj, A.heap[r]? = some o ∧ o.isCells = false) : CS w W0 m G g v s B := by
  have hr' : ∀ r, row = some r → ∃ o : Obj, A.heap[r]? = some o ∧ o.isCells = false := fun r e => (hr r e).2
  have bx : ∀ {b t v}, Boxed A b t v → Boxed B b t v := fun {b t v} q => boxed_own b t (fun (_ : Unit) => v) () A B row q hg hr'
  exact ⟨bx h.bv, h.rv.kept hg (row_free h.rv hr'), bx h.bi, bx h.bf, bx h.bg, ownFrom_below (β := Unit) (Nat.le_refl _) hb () A B row h.be hg hr, Nat.le_trans h.sz hg.size⟩
theorem CS.below {w W0 : World} {m G g : Nat} {v : Value} {s : Bk.St} {A B : World} (h : CS w W0 m G g v s A) (hb : Below A.heap.size A B) : CS w W0 m G g v s B :=
  h.grow (row := none) (Nat.le_refl _) ⟨hb.os, hb.tape, hb.output, hb.size, fun k hk _ => hb.block k hk⟩ (fun _ e => by cases e)
theorem CS.alloc {w W0 : World} {m G g : Nat} {v : Value} {s : Bk.St} {A : World} (h : CS w W0 m G g v s A) (o : Obj) : CS w W0 m G g v s (A.alloc o) := h.below ((Below.refl _ A).alloc (Nat.le_refl _) o)
/-- what the rounds may write -/
def ownC (m b : Nat) : Prop := m ≤ b ∧ b ≤ m + 1 + 1
theorem CS.append {w W0 W w1 : World} {m G g : Nat} {v v' : Value} {s : Bk.St} {o : Obj} {x : Int × Int} (h : CS w W0 m G g v s W) (hm : m + 1 + 1 < W0.heap.size) (hw : w.heap.size ≤ m)
    (hown : w1.ownsRow W0.heap.size 48 2 v' (s.out.length + 1) (s.out.flatMap encS ++ encS x)) (hg : (W.alloc o).grownBy w1 v.ownBlock) :
    CS w W0 m G g v' ⟨s.out ++ [x], s.ins, s.fr⟩ (w1.setCell ⟨m, 0, none⟩ v') ∧ KeepsOthers W (w1.setCell ⟨m, 0, none⟩ v') ∧ Kt (ownC m) W0.heap.size W (w1.setCell ⟨m, 0, none⟩ v') ∧ w1.cell? ⟨m, 0, none⟩ = some v ∧ w1.frozen? ⟨m, 0, none⟩ = false := by
  have b1 : Boxed w1 (m + 1) 4 (.bool s.ins) := (h.bi.alloc o).kept hg (h.bi.not_row (by decide) h.rv)
  have b2 : Boxed w1 (m + 1 + 1) 2 (.int .i64 s.fr) := (h.bf.alloc o).kept hg (h.bf.not_row (by decide) h.rv)
  have b3 : Boxed w1 G 103 (.func (.func g) #[] #[]) := (h.bg.alloc o).kept hg (h.bg.not_row (by decide) h.rv)
  have hs := h.sz
  have q := h.bv.appended (n₀ := w.heap.size) (by decide) (ownsRow_base h.rv (by omega)) h.be.size hw (ownsRow_base hown (by omega)) hg
  have kt := Kt.append (v' := v') (own := ownC m) (B := m) (by unfold ownC; omega) (Nat.le_refl _) h.rv hg hs
  have gm : G ≠ m := fun e => by subst e; have := h.bg.symm.trans h.bv; cases this
  refine ⟨⟨q.2.1, ?_, b1.other (by omega) _, b2.other (by omega) _, b3.other gm _, h.be.trans q.2.2.2.2, by have := kt.size; omega⟩, q.2.2.2.1, kt, q.1.cell, q.1.frozen⟩
  have r1 := hown.kept (grownBy_setCell' w1 m v') (.inr (q.1.not_row (by decide) hown).symm)
  rw [List.flatMap_append, List.length_append]
  simpa using r1
theorem CS.set {w W0 W : World} {m G g : Nat} {v : Value} {s : Bk.St} (h : CS w W0 m G g v s W) (hw : w.heap.size ≤ m) (hG : G < m) (p : Bool) (t : Int) :
    CS w W0 m G g v ⟨s.out, p, t⟩ ((W.setCell ⟨m + 1, 0, none⟩ (.bool p)).setCell ⟨m + 1 + 1, 0, none⟩ (.int .i64 t)) ∧ KeepsOthers W ((W.setCell ⟨m + 1, 0, none⟩ (.bool p)).setCell ⟨m + 1 + 1, 0, none⟩ (.int .i64 t)) ∧ Kt (ownC m) W0.heap.size W ((W.setCell ⟨m + 1, 0, none⟩ (.bool p)).setCell ⟨m + 1 + 1, 0, none⟩ (.int .i64 t)) := by
  have e1 := grownBy_setCell' W (m + 1) (.bool p)
  have e2 := grownBy_setCell' (W.setCell ⟨m + 1, 0, none⟩ (.bool p)) (m + 1 + 1) (.int .i64 t)
  have r1 := h.rv.kept e1 (.inr (h.bi.not_row (by decide) h.rv).symm)
  have b2 := (h.bf.other (by omega : m + 1 + 1 ≠ m + 1) (.bool p))
  have r2 := r1.kept e2 (.inr (b2.not_row (by decide) r1).symm)
  refine ⟨⟨(h.bv.other (by omega) _).other (by omega) _, r2, (h.bi.set _).other (by omega) _, b2.set _, (h.bg.other (by omega) _).other (by omega) _, (h.be.setCell (by show _ ≤ m + 1; omega) _).setCell (by show _ ≤ m + 1 + 1; omega) _, by have := e1.size; have := e2.size; have := h.sz; omega⟩,
    (KeepsOthers.setCell _ _ _).trans (KeepsOthers.setCell _ _ _), (Kt.set (by unfold ownC; omega) _).trans (Kt.set (by unfold ownC; omega) _)⟩

section
variable {F : Fence} {n : Nat} {P : Program} {ops : Array Oper} {Q : Exit → Act → World → Prop} {md : Region.Mode}
/-- a region that draws its order, step by step: what is ready, one after the other -/
theorem anyIn_cons {fuel : Nat} {listed : Array Bool} {a : Act} {w : World} {l : List Nat} (hr : Region.ready md ops listed = l) (hl : l ≠ [])
    (h : ∀ i ∈ l, wpOpIn F n P ops Q i (wpAnyIn F n P md ops Q fuel (listed.setIfInBounds i true)) a w) : wpAnyIn F n P md ops Q (fuel + 1) listed a w :=
  ⟨fun e => absurd (hr.symm.trans e) hl, by rw [hr]; exact h⟩
theorem anyIn_end {listed : Array Bool} {a : Act} {w : World} (hr : Region.ready md ops listed = []) (h : Q .normal a w) : wpAnyIn F n P md ops Q 0 listed a w := ⟨hr, h⟩
theorem opIn_at {i : Nat} {o : Oper} {K : Act → World → Prop} {a : Act} {w : World} (ho : ops[i]? = some o) (hg : o.guard = none) (h : o.wpIn F n P a w K Q) : wpOpIn F n P ops Q i K a w := by
  unfold wpOpIn
  rw [ho]
  simp only [Region.wanted, hg, if_true]
  exact h
end

/-- the closures of Union (1), Meet (2), Without (3) -/
def BelC (g : Nat) (k : Int) : Prop := ∀ (p q : Bool) (W : World), Calls Tryz.prog g #[.agg #[.bool p, .bool q]] W fun e w' => e = .returned (.bool (Bk.bel k p q)) ∧ Below W.heap.size W w'

attribute [local go_sem] Oper.semAt_some
set_option maxRecDepth 100000 in
set_option maxHeartbeats 4000000 in
theorem combine_in (n : Nat) (hn : 5 ≤ n) (g : Nat) (k : Int) (eg : ∀ args w, (callFunc g args).run Tryz.prog w = .ok (.enter g args) w) (hg : BelC g k) (va vb : Value) (a b : List (Int × Int)) (w : World) (ha : RowS w va a) (hb : RowS w vb b) (h : Bk.err2 a b = 0) :
    CallsIn Fence.wide n Tryz.prog 89 #[va, vb, .func (.func g) #[] #[]] w fun e w' => ∃ u, e = .returned (.tuple #[u, .int .i64 0]) ∧ OwnS w u (Bk.run (Bk.bel k) (Bk.bor a b) ⟨[], false, 0⟩).out w' := by
  have h1 : 1 ≤ n := by omega
  obtain ⟨i0, hi, hz0, hz1, hz2⟩ := info_parts infoS
  have OA := Lib.hid (Bk.errL_zero.1 (Bk.err2_zero.1 h).1)
  have OB := Lib.hid (Bk.errL_zero.1 (Bk.err2_zero.1 h).2)
  have HB := Lib.hid (below_new (below_new (Below.refl _ w) (.cells #[.func (.func g) #[] #[]] 103) (Nat.le_refl _)) (.cells #[va, vb] 27) (Nat.le_refl _))
  have G0 := Lib.hid ((Boxed.new w 103 (.func (.func g) #[] #[])).alloc (.cells #[va, vb] 27))
  have CK := Lib.hid (fun g W hc hd h1 h2 => check_two g va vb a b 0 h W hc hd h1 h2)
  have HG := Lib.hid hg
  have EG := Lib.hid eg
  have RA := Lib.hid ha
  have RB := Lib.hid hb
  have ML := Bk.bor_len a b
  have LA := OA.out.1
  have LB := OB.out.1
  obtain ⟨A1, cap1, rfl⟩ := ha.len
  obtain ⟨A2, cap2, rfl⟩ := hb.len
  clear h ha hb hg eg
  refine callsIn_of_wp_marks Tryz.func89 rfl trivial ?_ rfl
  simp only [Tryz.ntmps89, List.size_toArray, List.length_cons, List.length_nil, Nat.reduceAdd, Nat.reduceSub, Array.replicate_succ, Array.replicate_zero, List.push_toArray, List.append_toArray, List.nil_append, List.cons_append]
  gi_wp2_with (refine ⟨trivial, ?_⟩; gi_at_call 52; refine (callsIn_wide.2 (CK.out _ _ (by simp [go_sem]) (by simp [go_sem]) (RA.out.below HB.out) (RB.out.below HB.out))).mono ?_; rintro e V ⟨rfl, hb⟩)
  have B1 : Hid (Below w.heap.size w V) := Lib.hid (below_next HB.out hb)
  have RA1 := Lib.hid (RA.out.below B1.out)
  have RB1 := Lib.hid (RB.out.below B1.out)
  have G1 : Hid (Boxed V w.heap.size 103 (.func (.func g) #[] #[])) := Lib.hid ((hb.block _ (by simp; omega)).trans G0.out)
  clear hb
  gi_wp2_with (refine ⟨trivial, ?_⟩; gi_at_call 119; refine (callsIn_wide.2 (borders_any _ _ _ _ _ _ _ _ rfl rfl _)).mono ?_; rintro e W0 ⟨rfl, q1, q2, q3, q4⟩)
  -- GEN
  simp only [World.size_alloc] at q1 q2 q3 q4
  have sV := B1.out.size
  have bV : ∀ k, k < V.heap.size + 1 + 1 + 1 → W0.heap[k]? = (((V.alloc (.cells #[.slice none 0 0] 27)).alloc (.cells #[.bool false] 4)).alloc (.cells #[.int .i64 0] 2)).heap[k]? := fun k hk => q3.block k hk
  have bM : Boxed W0 V.heap.size 27 (.slice none 0 0) := (bV _ (by omega)).trans (((Boxed.new V 27 (.slice none 0 0)).alloc _).alloc _)
  have bI : Boxed W0 (V.heap.size + 1) 4 (.bool false) := (bV _ (by omega)).trans (by have := (Boxed.new (V.alloc (.cells #[.slice none 0 0] 27)) 4 (.bool false)).alloc (.cells #[.int .i64 0] 2); rw [World.size_alloc] at this; exact this)
  have bF : Boxed W0 (V.heap.size + 1 + 1) 2 (.int .i64 0) := (bV _ (by omega)).trans (by have := Boxed.new ((V.alloc (.cells #[.slice none 0 0] 27)).alloc (.cells #[.bool false] 4)) 2 (.int .i64 0); rw [World.size_alloc, World.size_alloc] at this; exact this)
  have bG : Boxed W0 w.heap.size 103 (.func (.func g) #[] #[]) := (bV _ (by have := G1.out.lt; omega)).trans (((G1.out.alloc _).alloc _).alloc _)
  have BV : Below V.heap.size V W0 := ((((Below.refl _ V).alloc (Nat.le_refl _) _).alloc (by simp) _).alloc (by simp; omega) _).trans (q3.mono (by omega))
  have BW : Below w.heap.size w W0 := B1.out.trans (BV.mono B1.out.size)
  have gV := G1.out.lt
  have OC : ∀ b, ownC V.heap.size b → V.heap.size ≤ b ∧ b < W0.heap.size := fun b e => by unfold ownC at e; omega
  have z1 : V.heap.size + 1 + 1 + 1 < W0.heap.size := by omega
  clear q3 bV q4
  apply wpIn_rangeFunc_ownH rfl h1 (gf := 135) (lb := #[.pointer (some ⟨V.heap.size + 1 + 1 + 1, 0, none⟩), .pointer (some ⟨V.heap.size + 1 + 1 + 1 + 1, 0, none⟩)]) rfl trivial (enters_of Tryz.func135 (by kernel_rfl) rfl)
    (borders_stops (ownC V.heap.size) (n - 1) (by omega) _ _ _ _ a b OA.out OB.out V W0 BV OC RA1.out RB1.out (by unfold ownC; omega) (by unfold ownC; omega) q1 q2) Kt.trans (Kt.book (Nat.le_refl _)) (Below.refl _ _) (fun _ => rfl)
    (fun pre W => ∃ v, CS w W0 V.heap.size w.heap.size g v (Bk.runW (Bk.bel k) pre ⟨[], false, 0⟩) W)
    (fun _ _ _ => False)
    (fun pre A B row ⟨v, h⟩ hg hr => ⟨v, h.grow (by omega) hg hr⟩)
    (fun _ _ _ _ _ hs _ _ => hs)
    ⟨_, bM, World.ownsRow_nil _ _ _ _, bI, bF, bG, BW, Nat.le_refl _⟩
    (fun x a' W => ∃ By, V.heap.size + 1 + 1 < By ∧ W.heap[By]? = some (.cells #[.bool x.2.1, .bool x.2.2] 102) ∧ a' = { tmps := #[.slice A1 a.length cap1, .slice A2 b.length cap2, .func (.func g) #[] #[], undef, undef, .pointer (some ⟨w.heap.size, 0, none⟩), .slice none 0 0, .int .i64 0, .int .i64 0, .pointer (some ⟨V.heap.size, 0, none⟩), .pointer (some ⟨V.heap.size + 1, 0, none⟩), .pointer (some ⟨V.heap.size + 1 + 1, 0, none⟩), .int .i64 x.1, .pointer (some ⟨By, 0, none⟩), .slice A1 a.length cap1, .slice A2 b.length cap2, .slice (some ⟨w.heap.size + 1, 0, none⟩) 2 2, .int .i64 0, .int .i64 0, .bool false, undef, .slice A1 a.length cap1, .slice A2 b.length cap2, .func (.func 135) #[] #[.pointer (some ⟨V.heap.size + 1 + 1 + 1, 0, none⟩), .pointer (some ⟨V.heap.size + 1 + 1 + 1 + 1, 0, none⟩)], .int .i64 x.1, .agg #[.bool x.2.1, .bool x.2.2], undef, undef, undef, undef, undef, undef, undef, undef, undef, undef, undef, undef, undef, undef, undef, undef, undef], defers := [] })
    (fun x a' _ X Y row hs hg hr => by
      obtain ⟨By, e1, e2, e3⟩ := hs
      refine ⟨By, e1, (hg.block By (Array.getElem?_eq_some_iff.1 e2).1 fun e => ?_).trans e2, e3⟩
      obtain ⟨_, o, ho, hc⟩ := hr By e.symm
      rw [e2] at ho; cases ho; cases hc)
    ?assign ?body ?done ?stop
  case assign =>
    rintro l pre x W K ⟨v, h⟩ hK
    simp only [mgV]
    gi_wp2
    have hs := h.sz
    refine hK _ _ ((KeepsOthers.alloc _ _).from _) ((Kt.refl _ _ W).alloc hs _) ⟨v, h.alloc _⟩ ⟨W.heap.size, by omega, World.alloc_heap_new W _, rfl⟩
  case body =>
    rintro l pre ⟨t, p, q⟩ a' W hl hr ⟨v, h⟩ ⟨By, hBy, hblk, rfl⟩ hlt
    have RL := Bk.runW_len (Bk.bel k) pre ⟨[], false, 0⟩
    simp only [List.length_nil, Nat.zero_add] at RL
    have ES := Bk.runW_snoc (Bk.bel k) pre (t, p, q) ⟨[], false, 0⟩
    simp only at ES
    obtain ⟨s, hs⟩ : ∃ s, Bk.runW (Bk.bel k) pre ⟨[], false, 0⟩ = s := ⟨_, rfl⟩
    rw [hs] at h RL ES
    obtain ⟨so, si, sf⟩ := s
    obtain ⟨r, hbel⟩ : ∃ r, Bk.bel k p q = r := ⟨_, rfl⟩
    obtain ⟨Wd, hWd⟩ : ∃ Wd, ({ W with drawn := W.drawn + 1 } : World) = Wd := ⟨_, rfl⟩
    have BD : Hid (Below W.heap.size W Wd) := Lib.hid (by rw [← hWd]; exact below_drewN (Below.refl _ W) 1)
    have SW := Lib.hid h
    have SD := Lib.hid (h.below BD.out)
    have HC := Lib.hid (HG.out p q Wd)
    rw [hbel] at HC
    have cg := SD.out.bg.cell
    have ci := SD.out.bi.cell
    have hbd := BD.out.block By (Array.getElem?_eq_some_iff.1 hblk).1
    rw [hblk] at hbd
    have w0 : Wd.cell? ⟨By, 0, none⟩ = some (.bool p) := by simp [World.cell?, hbd]
    have w1 : Wd.cell? ⟨By, 1, none⟩ = some (.bool q) := by simp [World.cell?, hbd]
    rw [hbel] at ES
    have HBEL := Lib.hid ES
    have eg := EG.out
    clear h hbd hblk hs hbel ES
    cases r with
    | false =>
      cases si with
      | false =>
        gi_wp2_with fail
        refine wpIn_mono (Q := fun e a2 w2 => e = .normal ∧ a2 = { tmps := #[.slice A1 a.length cap1, .slice A2 b.length cap2, .func (.func g) #[] #[], undef, undef, .pointer (some ⟨w.heap.size, 0, none⟩), .slice none 0 0, .int .i64 0, .int .i64 0, .pointer (some ⟨V.heap.size, 0, none⟩), .pointer (some ⟨V.heap.size + 1, 0, none⟩), .pointer (some ⟨V.heap.size + 1 + 1, 0, none⟩), .int .i64 t, .pointer (some ⟨By, 0, none⟩), .slice A1 a.length cap1, .slice A2 b.length cap2, .slice (some ⟨w.heap.size + 1, 0, none⟩) 2 2, .int .i64 0, .int .i64 0, .bool false, undef, .slice A1 a.length cap1, .slice A2 b.length cap2, .func (.func 135) #[] #[.pointer (some ⟨V.heap.size + 1 + 1 + 1, 0, none⟩), .pointer (some ⟨V.heap.size + 1 + 1 + 1 + 1, 0, none⟩)], .int .i64 t, .agg #[.bool p, .bool q], .func (.func g) #[] #[], .agg #[.bool p, .bool q], .bool false, .bool false, .bool true, undef, undef, undef, undef, undef, undef, undef, undef, undef, undef, undef, undef], defers := [] } ∧ Below Wd.heap.size Wd w2) ?_ ?_
        · refine wpIn_region_any (by kernel_rfl) ?_
          rw [hWd]
          refine anyIn_cons (l := [0, 1, 3]) (by kernel_rfl) (by simp) ?_
          intro i hi
          obtain rfl | rfl | rfl : i = 0 ∨ i = 1 ∨ i = 3 := by simpa using hi
          · clear hi
            refine opIn_at rfl rfl ?_
            gi_wp2
            refine anyIn_cons (l := [1, 3]) (by kernel_rfl) (by simp) ?_
            intro i hi
            obtain rfl | rfl : i = 1 ∨ i = 3 := by simpa using hi
            · clear hi
              refine opIn_at rfl rfl ?_
              gi_wp2
              refine anyIn_cons (l := [2, 3]) (by kernel_rfl) (by simp) ?_
              intro i hi
              obtain rfl | rfl : i = 2 ∨ i = 3 := by simpa using hi
              · clear hi
                refine opIn_at rfl rfl ?_
                gi_wp2_with fail
                refine ⟨trivial, fun h => (by cases h), (CallsIn.inRound l (callsIn_wide.2 HC.out)).mono ?_⟩
                rintro e V' ⟨rfl, hb'⟩
                have ci2 := (SD.out.below hb').bi.cell
                gi_wp2
                refine anyIn_cons (l := [3]) (by kernel_rfl) (by simp) ?_
                intro i hi
                obtain rfl : i = 3 := by simpa using hi
                clear hi
                refine opIn_at rfl rfl ?_
                gi_wp2
                refine anyIn_cons (l := [4]) (by kernel_rfl) (by simp) ?_
                intro i hi
                obtain rfl : i = 4 := by simpa using hi
                clear hi
                refine opIn_at rfl rfl ?_
                gi_wp2
                exact anyIn_end (by kernel_rfl) ⟨rfl, rfl, hb'⟩
              · clear hi
                refine opIn_at rfl rfl ?_
                gi_wp2
                refine anyIn_cons (l := [2]) (by kernel_rfl) (by simp) ?_
                intro i hi
                obtain rfl : i = 2 := by simpa using hi
                clear hi
                refine opIn_at rfl rfl ?_
                gi_wp2_with fail
                refine ⟨trivial, fun h => (by cases h), (CallsIn.inRound l (callsIn_wide.2 HC.out)).mono ?_⟩
                rintro e V' ⟨rfl, hb'⟩
                have ci2 := (SD.out.below hb').bi.cell
                gi_wp2
                refine anyIn_cons (l := [4]) (by kernel_rfl) (by simp) ?_
                intro i hi
                obtain rfl : i = 4 := by simpa using hi
                clear hi
                refine opIn_at rfl rfl ?_
                gi_wp2
                exact anyIn_end (by kernel_rfl) ⟨rfl, rfl, hb'⟩
            · clear hi
              refine opIn_at rfl rfl ?_
              gi_wp2
              refine anyIn_cons (l := [1]) (by kernel_rfl) (by simp) ?_
              intro i hi
              obtain rfl : i = 1 := by simpa using hi
              clear hi
              refine opIn_at rfl rfl ?_
              gi_wp2
              refine anyIn_cons (l := [2]) (by kernel_rfl) (by simp) ?_
              intro i hi
              obtain rfl : i = 2 := by simpa using hi
              clear hi
              refine opIn_at rfl rfl ?_
              gi_wp2_with fail
              refine ⟨trivial, fun h => (by cases h), (CallsIn.inRound l (callsIn_wide.2 HC.out)).mono ?_⟩
              rintro e V' ⟨rfl, hb'⟩
              have ci2 := (SD.out.below hb').bi.cell
              gi_wp2
              refine anyIn_cons (l := [4]) (by kernel_rfl) (by simp) ?_
              intro i hi
              obtain rfl : i = 4 := by simpa using hi
              clear hi
              refine opIn_at rfl rfl ?_
              gi_wp2
              exact anyIn_end (by kernel_rfl) ⟨rfl, rfl, hb'⟩
          · clear hi
            refine opIn_at rfl rfl ?_
            gi_wp2
            refine anyIn_cons (l := [0, 3]) (by kernel_rfl) (by simp) ?_
            intro i hi
            obtain rfl | rfl : i = 0 ∨ i = 3 := by simpa using hi
            · clear hi
              refine opIn_at rfl rfl ?_
              gi_wp2
              refine anyIn_cons (l := [2, 3]) (by kernel_rfl) (by simp) ?_
              intro i hi
              obtain rfl | rfl : i = 2 ∨ i = 3 := by simpa using hi
              · clear hi
                refine opIn_at rfl rfl ?_
                gi_wp2_with fail
                refine ⟨trivial, fun h => (by cases h), (CallsIn.inRound l (callsIn_wide.2 HC.out)).mono ?_⟩
                rintro e V' ⟨rfl, hb'⟩
                have ci2 := (SD.out.below hb').bi.cell
                gi_wp2
                refine anyIn_cons (l := [3]) (by kernel_rfl) (by simp) ?_
                intro i hi
                obtain rfl : i = 3 := by simpa using hi
                clear hi
                refine opIn_at rfl rfl ?_
                gi_wp2
                refine anyIn_cons (l := [4]) (by kernel_rfl) (by simp) ?_
                intro i hi
                obtain rfl : i = 4 := by simpa using hi
                clear hi
                refine opIn_at rfl rfl ?_
                gi_wp2
                exact anyIn_end (by kernel_rfl) ⟨rfl, rfl, hb'⟩
              · clear hi
                refine opIn_at rfl rfl ?_
                gi_wp2
                refine anyIn_cons (l := [2]) (by kernel_rfl) (by simp) ?_
                intro i hi
                obtain rfl : i = 2 := by simpa using hi
                clear hi
                refine opIn_at rfl rfl ?_
                gi_wp2_with fail
                refine ⟨trivial, fun h => (by cases h), (CallsIn.inRound l (callsIn_wide.2 HC.out)).mono ?_⟩
                rintro e V' ⟨rfl, hb'⟩
                have ci2 := (SD.out.below hb').bi.cell
                gi_wp2
                refine anyIn_cons (l := [4]) (by kernel_rfl) (by simp) ?_
                intro i hi
                obtain rfl : i = 4 := by simpa using hi
                clear hi
                refine opIn_at rfl rfl ?_
                gi_wp2
                exact anyIn_end (by kernel_rfl) ⟨rfl, rfl, hb'⟩
            · clear hi
              refine opIn_at rfl rfl ?_
              gi_wp2
              refine anyIn_cons (l := [0]) (by kernel_rfl) (by simp) ?_
              intro i hi
              obtain rfl : i = 0 := by simpa using hi
              clear hi
              refine opIn_at rfl rfl ?_
              gi_wp2
              refine anyIn_cons (l := [2]) (by kernel_rfl) (by simp) ?_
              intro i hi
              obtain rfl : i = 2 := by simpa using hi
              clear hi
              refine opIn_at rfl rfl ?_
              gi_wp2_with fail
              refine ⟨trivial, fun h => (by cases h), (CallsIn.inRound l (callsIn_wide.2 HC.out)).mono ?_⟩
              rintro e V' ⟨rfl, hb'⟩
              have ci2 := (SD.out.below hb').bi.cell
              gi_wp2
              refine anyIn_cons (l := [4]) (by kernel_rfl) (by simp) ?_
              intro i hi
              obtain rfl : i = 4 := by simpa using hi
              clear hi
              refine opIn_at rfl rfl ?_
              gi_wp2
              exact anyIn_end (by kernel_rfl) ⟨rfl, rfl, hb'⟩
          · clear hi
            refine opIn_at rfl rfl ?_
            gi_wp2
            refine anyIn_cons (l := [0, 1]) (by kernel_rfl) (by simp) ?_
            intro i hi
            obtain rfl | rfl : i = 0 ∨ i = 1 := by simpa using hi
            · clear hi
              refine opIn_at rfl rfl ?_
              gi_wp2
              refine anyIn_cons (l := [1]) (by kernel_rfl) (by simp) ?_
              intro i hi
              obtain rfl : i = 1 := by simpa using hi
              clear hi
              refine opIn_at rfl rfl ?_
              gi_wp2
              refine anyIn_cons (l := [2]) (by kernel_rfl) (by simp) ?_
              intro i hi
              obtain rfl : i = 2 := by simpa using hi
              clear hi
              refine opIn_at rfl rfl ?_
              gi_wp2_with fail
              refine ⟨trivial, fun h => (by cases h), (CallsIn.inRound l (callsIn_wide.2 HC.out)).mono ?_⟩
              rintro e V' ⟨rfl, hb'⟩
              have ci2 := (SD.out.below hb').bi.cell
              gi_wp2
              refine anyIn_cons (l := [4]) (by kernel_rfl) (by simp) ?_
              intro i hi
              obtain rfl : i = 4 := by simpa using hi
              clear hi
              refine opIn_at rfl rfl ?_
              gi_wp2
              exact anyIn_end (by kernel_rfl) ⟨rfl, rfl, hb'⟩
            · clear hi
              refine opIn_at rfl rfl ?_
              gi_wp2
              refine anyIn_cons (l := [0]) (by kernel_rfl) (by simp) ?_
              intro i hi
              obtain rfl : i = 0 := by simpa using hi
              clear hi
              refine opIn_at rfl rfl ?_
              gi_wp2
              refine anyIn_cons (l := [2]) (by kernel_rfl) (by simp) ?_
              intro i hi
              obtain rfl : i = 2 := by simpa using hi
              clear hi
              refine opIn_at rfl rfl ?_
              gi_wp2_with fail
              refine ⟨trivial, fun h => (by cases h), (CallsIn.inRound l (callsIn_wide.2 HC.out)).mono ?_⟩
              rintro e V' ⟨rfl, hb'⟩
              have ci2 := (SD.out.below hb').bi.cell
              gi_wp2
              refine anyIn_cons (l := [4]) (by kernel_rfl) (by simp) ?_
              intro i hi
              obtain rfl : i = 4 := by simpa using hi
              clear hi
              refine opIn_at rfl rfl ?_
              gi_wp2
              exact anyIn_end (by kernel_rfl) ⟨rfl, rfl, hb'⟩
        · rintro e a2 w2 ⟨rfl, rfl, hb2⟩
          have HW := Lib.hid (show Below W.heap.size W w2 from BD.out.trans (hb2.mono BD.out.size))
          have S2 := Lib.hid (SD.out.below hb2)
          have sz := SW.out.sz
          clear hb2 cg ci w0 w1 hWd eg
          gi_wp2
          exact ⟨(keeps_below HW.out).from _, Kt.of_below HW.out sz, v, by rw [HBEL.out]; exact S2.out⟩
      | true =>
        gi_wp2_with fail
        refine wpIn_mono (Q := fun e a2 w2 => e = .normal ∧ a2 = { tmps := #[.slice A1 a.length cap1, .slice A2 b.length cap2, .func (.func g) #[] #[], undef, undef, .pointer (some ⟨w.heap.size, 0, none⟩), .slice none 0 0, .int .i64 0, .int .i64 0, .pointer (some ⟨V.heap.size, 0, none⟩), .pointer (some ⟨V.heap.size + 1, 0, none⟩), .pointer (some ⟨V.heap.size + 1 + 1, 0, none⟩), .int .i64 t, .pointer (some ⟨By, 0, none⟩), .slice A1 a.length cap1, .slice A2 b.length cap2, .slice (some ⟨w.heap.size + 1, 0, none⟩) 2 2, .int .i64 0, .int .i64 0, .bool false, undef, .slice A1 a.length cap1, .slice A2 b.length cap2, .func (.func 135) #[] #[.pointer (some ⟨V.heap.size + 1 + 1 + 1, 0, none⟩), .pointer (some ⟨V.heap.size + 1 + 1 + 1 + 1, 0, none⟩)], .int .i64 t, .agg #[.bool p, .bool q], .func (.func g) #[] #[], .agg #[.bool p, .bool q], .bool false, .bool true, .bool false, undef, undef, undef, undef, undef, undef, undef, undef, undef, undef, undef, undef], defers := [] } ∧ Below Wd.heap.size Wd w2) ?_ ?_
        · refine wpIn_region_any (by kernel_rfl) ?_
          rw [hWd]
          refine anyIn_cons (l := [0, 1, 3]) (by kernel_rfl) (by simp) ?_
          intro i hi
          obtain rfl | rfl | rfl : i = 0 ∨ i = 1 ∨ i = 3 := by simpa using hi
          · clear hi
            refine opIn_at rfl rfl ?_
            gi_wp2
            refine anyIn_cons (l := [1, 3]) (by kernel_rfl) (by simp) ?_
            intro i hi
            obtain rfl | rfl : i = 1 ∨ i = 3 := by simpa using hi
            · clear hi
              refine opIn_at rfl rfl ?_
              gi_wp2
              refine anyIn_cons (l := [2, 3]) (by kernel_rfl) (by simp) ?_
              intro i hi
              obtain rfl | rfl : i = 2 ∨ i = 3 := by simpa using hi
              · clear hi
                refine opIn_at rfl rfl ?_
                gi_wp2_with fail
                refine ⟨trivial, fun h => (by cases h), (CallsIn.inRound l (callsIn_wide.2 HC.out)).mono ?_⟩
                rintro e V' ⟨rfl, hb'⟩
                have ci2 := (SD.out.below hb').bi.cell
                gi_wp2
                refine anyIn_cons (l := [3]) (by kernel_rfl) (by simp) ?_
                intro i hi
                obtain rfl : i = 3 := by simpa using hi
                clear hi
                refine opIn_at rfl rfl ?_
                gi_wp2
                refine anyIn_cons (l := [4]) (by kernel_rfl) (by simp) ?_
                intro i hi
                obtain rfl : i = 4 := by simpa using hi
                clear hi
                refine opIn_at rfl rfl ?_
                gi_wp2
                exact anyIn_end (by kernel_rfl) ⟨rfl, rfl, hb'⟩
              · clear hi
                refine opIn_at rfl rfl ?_
                gi_wp2
                refine anyIn_cons (l := [2]) (by kernel_rfl) (by simp) ?_
                intro i hi
                obtain rfl : i = 2 := by simpa using hi
                clear hi
                refine opIn_at rfl rfl ?_
                gi_wp2_with fail
                refine ⟨trivial, fun h => (by cases h), (CallsIn.inRound l (callsIn_wide.2 HC.out)).mono ?_⟩
                rintro e V' ⟨rfl, hb'⟩
                have ci2 := (SD.out.below hb').bi.cell
                gi_wp2
                refine anyIn_cons (l := [4]) (by kernel_rfl) (by simp) ?_
                intro i hi
                obtain rfl : i = 4 := by simpa using hi
                clear hi
                refine opIn_at rfl rfl ?_
                gi_wp2
                exact anyIn_end (by kernel_rfl) ⟨rfl, rfl, hb'⟩
            · clear hi
              refine opIn_at rfl rfl ?_
              gi_wp2
              refine anyIn_cons (l := [1]) (by kernel_rfl) (by simp) ?_
              intro i hi
              obtain rfl : i = 1 := by simpa using hi
              clear hi
              refine opIn_at rfl rfl ?_
              gi_wp2
              refine anyIn_cons (l := [2]) (by kernel_rfl) (by simp) ?_
              intro i hi
              obtain rfl : i = 2 := by simpa using hi
              clear hi
              refine opIn_at rfl rfl ?_
              gi_wp2_with fail
              refine ⟨trivial, fun h => (by cases h), (CallsIn.inRound l (callsIn_wide.2 HC.out)).mono ?_⟩
              rintro e V' ⟨rfl, hb'⟩
              have ci2 := (SD.out.below hb').bi.cell
              gi_wp2
              refine anyIn_cons (l := [4]) (by kernel_rfl) (by simp) ?_
              intro i hi
              obtain rfl : i = 4 := by simpa using hi
              clear hi
              refine opIn_at rfl rfl ?_
              gi_wp2
              exact anyIn_end (by kernel_rfl) ⟨rfl, rfl, hb'⟩
          · clear hi
            refine opIn_at rfl rfl ?_
            gi_wp2
            refine anyIn_cons (l := [0, 3]) (by kernel_rfl) (by simp) ?_
            intro i hi
            obtain rfl | rfl : i = 0 ∨ i = 3 := by simpa using hi
            · clear hi
              refine opIn_at rfl rfl ?_
              gi_wp2
              refine anyIn_cons (l := [2, 3]) (by kernel_rfl) (by simp) ?_
              intro i hi
              obtain rfl | rfl : i = 2 ∨ i = 3 := by simpa using hi
              · clear hi
                refine opIn_at rfl rfl ?_
                gi_wp2_with fail
                refine ⟨trivial, fun h => (by cases h), (CallsIn.inRound l (callsIn_wide.2 HC.out)).mono ?_⟩
                rintro e V' ⟨rfl, hb'⟩
                have ci2 := (SD.out.below hb').bi.cell
                gi_wp2
                refine anyIn_cons (l := [3]) (by kernel_rfl) (by simp) ?_
                intro i hi
                obtain rfl : i = 3 := by simpa using hi
                clear hi
                refine opIn_at rfl rfl ?_
                gi_wp2
                refine anyIn_cons (l := [4]) (by kernel_rfl) (by simp) ?_
                intro i hi
                obtain rfl : i = 4 := by simpa using hi
                clear hi
                refine opIn_at rfl rfl ?_
                gi_wp2
                exact anyIn_end (by kernel_rfl) ⟨rfl, rfl, hb'⟩
              · clear hi
                refine opIn_at rfl rfl ?_
                gi_wp2
                refine anyIn_cons (l := [2]) (by kernel_rfl) (by simp) ?_
                intro i hi
                obtain rfl : i = 2 := by simpa using hi
                clear hi
                refine opIn_at rfl rfl ?_
                gi_wp2_with fail
                refine ⟨trivial, fun h => (by cases h), (CallsIn.inRound l (callsIn_wide.2 HC.out)).mono ?_⟩
                rintro e V' ⟨rfl, hb'⟩
                have ci2 := (SD.out.below hb').bi.cell
                gi_wp2
                refine anyIn_cons (l := [4]) (by kernel_rfl) (by simp) ?_
                intro i hi
                obtain rfl : i = 4 := by simpa using hi
                clear hi
                refine opIn_at rfl rfl ?_
                gi_wp2
                exact anyIn_end (by kernel_rfl) ⟨rfl, rfl, hb'⟩
            · clear hi
              refine opIn_at rfl rfl ?_
              gi_wp2
              refine anyIn_cons (l := [0]) (by kernel_rfl) (by simp) ?_
              intro i hi
              obtain rfl : i = 0 := by simpa using hi
              clear hi
              refine opIn_at rfl rfl ?_
              gi_wp2
              refine anyIn_cons (l := [2]) (by kernel_rfl) (by simp) ?_
              intro i hi
              obtain rfl : i = 2 := by simpa using hi
              clear hi
              refine opIn_at rfl rfl ?_
              gi_wp2_with fail
              refine ⟨trivial, fun h => (by cases h), (CallsIn.inRound l (callsIn_wide.2 HC.out)).mono ?_⟩
              rintro e V' ⟨rfl, hb'⟩
              have ci2 := (SD.out.below hb').bi.cell
              gi_wp2
              refine anyIn_cons (l := [4]) (by kernel_rfl) (by simp) ?_
              intro i hi
              obtain rfl : i = 4 := by simpa using hi
              clear hi
              refine opIn_at rfl rfl ?_
              gi_wp2
              exact anyIn_end (by kernel_rfl) ⟨rfl, rfl, hb'⟩
          · clear hi
            refine opIn_at rfl rfl ?_
            gi_wp2
            refine anyIn_cons (l := [0, 1]) (by kernel_rfl) (by simp) ?_
            intro i hi
            obtain rfl | rfl : i = 0 ∨ i = 1 := by simpa using hi
            · clear hi
              refine opIn_at rfl rfl ?_
              gi_wp2
              refine anyIn_cons (l := [1]) (by kernel_rfl) (by simp) ?_
              intro i hi
              obtain rfl : i = 1 := by simpa using hi
              clear hi
              refine opIn_at rfl rfl ?_
              gi_wp2
              refine anyIn_cons (l := [2]) (by kernel_rfl) (by simp) ?_
              intro i hi
              obtain rfl : i = 2 := by simpa using hi
              clear hi
              refine opIn_at rfl rfl ?_
              gi_wp2_with fail
              refine ⟨trivial, fun h => (by cases h), (CallsIn.inRound l (callsIn_wide.2 HC.out)).mono ?_⟩
              rintro e V' ⟨rfl, hb'⟩
              have ci2 := (SD.out.below hb').bi.cell
              gi_wp2
              refine anyIn_cons (l := [4]) (by kernel_rfl) (by simp) ?_
              intro i hi
              obtain rfl : i = 4 := by simpa using hi
              clear hi
              refine opIn_at rfl rfl ?_
              gi_wp2
              exact anyIn_end (by kernel_rfl) ⟨rfl, rfl, hb'⟩
            · clear hi
              refine opIn_at rfl rfl ?_
              gi_wp2
              refine anyIn_cons (l := [0]) (by kernel_rfl) (by simp) ?_
              intro i hi
              obtain rfl : i = 0 := by simpa using hi
              clear hi
              refine opIn_at rfl rfl ?_
              gi_wp2
              refine anyIn_cons (l := [2]) (by kernel_rfl) (by simp) ?_
              intro i hi
              obtain rfl : i = 2 := by simpa using hi
              clear hi
              refine opIn_at rfl rfl ?_
              gi_wp2_with fail
              refine ⟨trivial, fun h => (by cases h), (CallsIn.inRound l (callsIn_wide.2 HC.out)).mono ?_⟩
              rintro e V' ⟨rfl, hb'⟩
              have ci2 := (SD.out.below hb').bi.cell
              gi_wp2
              refine anyIn_cons (l := [4]) (by kernel_rfl) (by simp) ?_
              intro i hi
              obtain rfl : i = 4 := by simpa using hi
              clear hi
              refine opIn_at rfl rfl ?_
              gi_wp2
              exact anyIn_end (by kernel_rfl) ⟨rfl, rfl, hb'⟩
        · rintro e a2 w2 ⟨rfl, rfl, hb2⟩
          have HW := Lib.hid (show Below W.heap.size W w2 from BD.out.trans (hb2.mono BD.out.size))
          have S2 := Lib.hid (SD.out.below hb2)
          have sz := SW.out.sz
          clear hb2 cg ci w0 w1 hWd eg
          have ci := S2.out.bi.cell
          have cv := S2.out.bv.cell
          have cf := S2.out.bf.cell
          have sz2 := S2.out.sz
          obtain ⟨t', ht'⟩ : ∃ t', IntKind.i64.wrap (t - 1) = t' := ⟨_, rfl⟩
          have HT := Lib.hid ht'
          gi_wp2_with (gi_at_builtin; refine wpListIn_append_own _ rfl _ _ 27 rfl W0.heap.size 48 i0 (.agg #[.int .i64 0, .int .i64 0]) 2 16 Tryz.underlying27 hi hz0 hz1 hz2 rfl (by decide) _ so.length (so.flatMap encS) rfl (S2.out.rv.alloc _) ⟨w2.heap.size, 0, none⟩ 1 1 [.int .i64 sf, .int .i64 t'] rfl rfl (cells_new _ _ rfl [.int .i64 sf, .int .i64 t'] _) (by simp [Value.oneCell']) (by simp [maxLen]; omega) (by omega) (by simp; omega) ?_; intro v' w1 hown' hgrow _; obtain ⟨g', cap', rfl⟩ := ownsRow_succ hown'; have hq := Lib.hid (S2.out.append (x := (sf, t')) (by omega) (by omega) hown' hgrow); have k4 := hq.out.2.2.2.1; have k5 := hq.out.2.2.2.2; have c4 := hq.out.1.bi.cell; have f4 := hq.out.1.bi.frozen; have b5 := Lib.hid (hq.out.1.bf.other (by omega : V.heap.size + 1 + 1 ≠ V.heap.size + 1) (.bool false)); have c5 := b5.out.cell; have f5 := b5.out.frozen)
          have Q := Lib.hid (hq.out.1.set (by omega) (by omega) false t)
          exact ⟨(((keeps_below HW.out).trans hq.out.2.1).trans Q.out.2.1).from _, ((Kt.of_below HW.out sz).trans hq.out.2.2.1).trans Q.out.2.2, _, by rw [HBEL.out]; simp only [Bk.stepW, HT.out]; exact Q.out.1⟩
    | true =>
      cases si with
      | false =>
        gi_wp2_with fail
        refine wpIn_mono (Q := fun e a2 w2 => e = .normal ∧ a2 = { tmps := #[.slice A1 a.length cap1, .slice A2 b.length cap2, .func (.func g) #[] #[], undef, undef, .pointer (some ⟨w.heap.size, 0, none⟩), .slice none 0 0, .int .i64 0, .int .i64 0, .pointer (some ⟨V.heap.size, 0, none⟩), .pointer (some ⟨V.heap.size + 1, 0, none⟩), .pointer (some ⟨V.heap.size + 1 + 1, 0, none⟩), .int .i64 t, .pointer (some ⟨By, 0, none⟩), .slice A1 a.length cap1, .slice A2 b.length cap2, .slice (some ⟨w.heap.size + 1, 0, none⟩) 2 2, .int .i64 0, .int .i64 0, .bool false, undef, .slice A1 a.length cap1, .slice A2 b.length cap2, .func (.func 135) #[] #[.pointer (some ⟨V.heap.size + 1 + 1 + 1, 0, none⟩), .pointer (some ⟨V.heap.size + 1 + 1 + 1 + 1, 0, none⟩)], .int .i64 t, .agg #[.bool p, .bool q], .func (.func g) #[] #[], .agg #[.bool p, .bool q], .bool true, .bool false, .bool false, undef, undef, undef, undef, undef, undef, undef, undef, undef, undef, undef, undef], defers := [] } ∧ Below Wd.heap.size Wd w2) ?_ ?_
        · refine wpIn_region_any (by kernel_rfl) ?_
          rw [hWd]
          refine anyIn_cons (l := [0, 1, 3]) (by kernel_rfl) (by simp) ?_
          intro i hi
          obtain rfl | rfl | rfl : i = 0 ∨ i = 1 ∨ i = 3 := by simpa using hi
          · clear hi
            refine opIn_at rfl rfl ?_
            gi_wp2
            refine anyIn_cons (l := [1, 3]) (by kernel_rfl) (by simp) ?_
            intro i hi
            obtain rfl | rfl : i = 1 ∨ i = 3 := by simpa using hi
            · clear hi
              refine opIn_at rfl rfl ?_
              gi_wp2
              refine anyIn_cons (l := [2, 3]) (by kernel_rfl) (by simp) ?_
              intro i hi
              obtain rfl | rfl : i = 2 ∨ i = 3 := by simpa using hi
              · clear hi
                refine opIn_at rfl rfl ?_
                gi_wp2_with fail
                refine ⟨trivial, fun h => (by cases h), (CallsIn.inRound l (callsIn_wide.2 HC.out)).mono ?_⟩
                rintro e V' ⟨rfl, hb'⟩
                have ci2 := (SD.out.below hb').bi.cell
                gi_wp2
                refine anyIn_cons (l := [3]) (by kernel_rfl) (by simp) ?_
                intro i hi
                obtain rfl : i = 3 := by simpa using hi
                clear hi
                refine opIn_at rfl rfl ?_
                gi_wp2
                refine anyIn_cons (l := [4]) (by kernel_rfl) (by simp) ?_
                intro i hi
                obtain rfl : i = 4 := by simpa using hi
                clear hi
                refine opIn_at rfl rfl ?_
                gi_wp2
                exact anyIn_end (by kernel_rfl) ⟨rfl, rfl, hb'⟩
              · clear hi
                refine opIn_at rfl rfl ?_
                gi_wp2
                refine anyIn_cons (l := [2]) (by kernel_rfl) (by simp) ?_
                intro i hi
                obtain rfl : i = 2 := by simpa using hi
                clear hi
                refine opIn_at rfl rfl ?_
                gi_wp2_with fail
                refine ⟨trivial, fun h => (by cases h), (CallsIn.inRound l (callsIn_wide.2 HC.out)).mono ?_⟩
                rintro e V' ⟨rfl, hb'⟩
                have ci2 := (SD.out.below hb').bi.cell
                gi_wp2
                refine anyIn_cons (l := [4]) (by kernel_rfl) (by simp) ?_
                intro i hi
                obtain rfl : i = 4 := by simpa using hi
                clear hi
                refine opIn_at rfl rfl ?_
                gi_wp2
                exact anyIn_end (by kernel_rfl) ⟨rfl, rfl, hb'⟩
            · clear hi
              refine opIn_at rfl rfl ?_
              gi_wp2
              refine anyIn_cons (l := [1]) (by kernel_rfl) (by simp) ?_
              intro i hi
              obtain rfl : i = 1 := by simpa using hi
              clear hi
              refine opIn_at rfl rfl ?_
              gi_wp2
              refine anyIn_cons (l := [2]) (by kernel_rfl) (by simp) ?_
              intro i hi
              obtain rfl : i = 2 := by simpa using hi
              clear hi
              refine opIn_at rfl rfl ?_
              gi_wp2_with fail
              refine ⟨trivial, fun h => (by cases h), (CallsIn.inRound l (callsIn_wide.2 HC.out)).mono ?_⟩
              rintro e V' ⟨rfl, hb'⟩
              have ci2 := (SD.out.below hb').bi.cell
              gi_wp2
              refine anyIn_cons (l := [4]) (by kernel_rfl) (by simp) ?_
              intro i hi
              obtain rfl : i = 4 := by simpa using hi
              clear hi
              refine opIn_at rfl rfl ?_
              gi_wp2
              exact anyIn_end (by kernel_rfl) ⟨rfl, rfl, hb'⟩
          · clear hi
            refine opIn_at rfl rfl ?_
            gi_wp2
            refine anyIn_cons (l := [0, 3]) (by kernel_rfl) (by simp) ?_
            intro i hi
            obtain rfl | rfl : i = 0 ∨ i = 3 := by simpa using hi
            · clear hi
              refine opIn_at rfl rfl ?_
              gi_wp2
              refine anyIn_cons (l := [2, 3]) (by kernel_rfl) (by simp) ?_
              intro i hi
              obtain rfl | rfl : i = 2 ∨ i = 3 := by simpa using hi
              · clear hi
                refine opIn_at rfl rfl ?_
                gi_wp2_with fail
                refine ⟨trivial, fun h => (by cases h), (CallsIn.inRound l (callsIn_wide.2 HC.out)).mono ?_⟩
                rintro e V' ⟨rfl, hb'⟩
                have ci2 := (SD.out.below hb').bi.cell
                gi_wp2
                refine anyIn_cons (l := [3]) (by kernel_rfl) (by simp) ?_
                intro i hi
                obtain rfl : i = 3 := by simpa using hi
                clear hi
                refine opIn_at rfl rfl ?_
                gi_wp2
                refine anyIn_cons (l := [4]) (by kernel_rfl) (by simp) ?_
                intro i hi
                obtain rfl : i = 4 := by simpa using hi
                clear hi
                refine opIn_at rfl rfl ?_
                gi_wp2
                exact anyIn_end (by kernel_rfl) ⟨rfl, rfl, hb'⟩
              · clear hi
                refine opIn_at rfl rfl ?_
                gi_wp2
                refine anyIn_cons (l := [2]) (by kernel_rfl) (by simp) ?_
                intro i hi
                obtain rfl : i = 2 := by simpa using hi
                clear hi
                refine opIn_at rfl rfl ?_
                gi_wp2_with fail
                refine ⟨trivial, fun h => (by cases h), (CallsIn.inRound l (callsIn_wide.2 HC.out)).mono ?_⟩
                rintro e V' ⟨rfl, hb'⟩
                have ci2 := (SD.out.below hb').bi.cell
                gi_wp2
                refine anyIn_cons (l := [4]) (by kernel_rfl) (by simp) ?_
                intro i hi
                obtain rfl : i = 4 := by simpa using hi
                clear hi
                refine opIn_at rfl rfl ?_
                gi_wp2
                exact anyIn_end (by kernel_rfl) ⟨rfl, rfl, hb'⟩
            · clear hi
              refine opIn_at rfl rfl ?_
              gi_wp2
              refine anyIn_cons (l := [0]) (by kernel_rfl) (by simp) ?_
              intro i hi
              obtain rfl : i = 0 := by simpa using hi
              clear hi
              refine opIn_at rfl rfl ?_
              gi_wp2
              refine anyIn_cons (l := [2]) (by kernel_rfl) (by simp) ?_
              intro i hi
              obtain rfl : i = 2 := by simpa using hi
              clear hi
              refine opIn_at rfl rfl ?_
              gi_wp2_with fail
              refine ⟨trivial, fun h => (by cases h), (CallsIn.inRound l (callsIn_wide.2 HC.out)).mono ?_⟩
              rintro e V' ⟨rfl, hb'⟩
              have ci2 := (SD.out.below hb').bi.cell
              gi_wp2
              refine anyIn_cons (l := [4]) (by kernel_rfl) (by simp) ?_
              intro i hi
              obtain rfl : i = 4 := by simpa using hi
              clear hi
              refine opIn_at rfl rfl ?_
              gi_wp2
              exact anyIn_end (by kernel_rfl) ⟨rfl, rfl, hb'⟩
          · clear hi
            refine opIn_at rfl rfl ?_
            gi_wp2
            refine anyIn_cons (l := [0, 1]) (by kernel_rfl) (by simp) ?_
            intro i hi
            obtain rfl | rfl : i = 0 ∨ i = 1 := by simpa using hi
            · clear hi
              refine opIn_at rfl rfl ?_
              gi_wp2
              refine anyIn_cons (l := [1]) (by kernel_rfl) (by simp) ?_
              intro i hi
              obtain rfl : i = 1 := by simpa using hi
              clear hi
              refine opIn_at rfl rfl ?_
              gi_wp2
              refine anyIn_cons (l := [2]) (by kernel_rfl) (by simp) ?_
              intro i hi
              obtain rfl : i = 2 := by simpa using hi
              clear hi
              refine opIn_at rfl rfl ?_
              gi_wp2_with fail
              refine ⟨trivial, fun h => (by cases h), (CallsIn.inRound l (callsIn_wide.2 HC.out)).mono ?_⟩
              rintro e V' ⟨rfl, hb'⟩
              have ci2 := (SD.out.below hb').bi.cell
              gi_wp2
              refine anyIn_cons (l := [4]) (by kernel_rfl) (by simp) ?_
              intro i hi
              obtain rfl : i = 4 := by simpa using hi
              clear hi
              refine opIn_at rfl rfl ?_
              gi_wp2
              exact anyIn_end (by kernel_rfl) ⟨rfl, rfl, hb'⟩
            · clear hi
              refine opIn_at rfl rfl ?_
              gi_wp2
              refine anyIn_cons (l := [0]) (by kernel_rfl) (by simp) ?_
              intro i hi
              obtain rfl : i = 0 := by simpa using hi
              clear hi
              refine opIn_at rfl rfl ?_
              gi_wp2
              refine anyIn_cons (l := [2]) (by kernel_rfl) (by simp) ?_
              intro i hi
              obtain rfl : i = 2 := by simpa using hi
              clear hi
              refine opIn_at rfl rfl ?_
              gi_wp2_with fail
              refine ⟨trivial, fun h => (by cases h), (CallsIn.inRound l (callsIn_wide.2 HC.out)).mono ?_⟩
              rintro e V' ⟨rfl, hb'⟩
              have ci2 := (SD.out.below hb').bi.cell
              gi_wp2
              refine anyIn_cons (l := [4]) (by kernel_rfl) (by simp) ?_
              intro i hi
              obtain rfl : i = 4 := by simpa using hi
              clear hi
              refine opIn_at rfl rfl ?_
              gi_wp2
              exact anyIn_end (by kernel_rfl) ⟨rfl, rfl, hb'⟩
        · rintro e a2 w2 ⟨rfl, rfl, hb2⟩
          have HW := Lib.hid (show Below W.heap.size W w2 from BD.out.trans (hb2.mono BD.out.size))
          have S2 := Lib.hid (SD.out.below hb2)
          have sz := SW.out.sz
          clear hb2 cg ci w0 w1 hWd eg
          have ci := S2.out.bi.cell
          have fi := S2.out.bi.frozen
          have b3 := S2.out.bf.other (by omega : V.heap.size + 1 + 1 ≠ V.heap.size + 1) (.bool true)
          have cf := b3.cell
          have ff := b3.frozen
          have Q := Lib.hid (S2.out.set (by omega) (by omega) true t)
          clear b3
          gi_wp2
          exact ⟨((keeps_below HW.out).trans Q.out.2.1).from _, (Kt.of_below HW.out sz).trans Q.out.2.2, v, by rw [HBEL.out]; exact Q.out.1⟩
      | true =>
        gi_wp2_with fail
        refine wpIn_mono (Q := fun e a2 w2 => e = .normal ∧ a2 = { tmps := #[.slice A1 a.length cap1, .slice A2 b.length cap2, .func (.func g) #[] #[], undef, undef, .pointer (some ⟨w.heap.size, 0, none⟩), .slice none 0 0, .int .i64 0, .int .i64 0, .pointer (some ⟨V.heap.size, 0, none⟩), .pointer (some ⟨V.heap.size + 1, 0, none⟩), .pointer (some ⟨V.heap.size + 1 + 1, 0, none⟩), .int .i64 t, .pointer (some ⟨By, 0, none⟩), .slice A1 a.length cap1, .slice A2 b.length cap2, .slice (some ⟨w.heap.size + 1, 0, none⟩) 2 2, .int .i64 0, .int .i64 0, .bool false, undef, .slice A1 a.length cap1, .slice A2 b.length cap2, .func (.func 135) #[] #[.pointer (some ⟨V.heap.size + 1 + 1 + 1, 0, none⟩), .pointer (some ⟨V.heap.size + 1 + 1 + 1 + 1, 0, none⟩)], .int .i64 t, .agg #[.bool p, .bool q], .func (.func g) #[] #[], .agg #[.bool p, .bool q], .bool true, .bool true, .bool true, undef, undef, undef, undef, undef, undef, undef, undef, undef, undef, undef, undef], defers := [] } ∧ Below Wd.heap.size Wd w2) ?_ ?_
        · refine wpIn_region_any (by kernel_rfl) ?_
          rw [hWd]
          refine anyIn_cons (l := [0, 1, 3]) (by kernel_rfl) (by simp) ?_
          intro i hi
          obtain rfl | rfl | rfl : i = 0 ∨ i = 1 ∨ i = 3 := by simpa using hi
          · clear hi
            refine opIn_at rfl rfl ?_
            gi_wp2
            refine anyIn_cons (l := [1, 3]) (by kernel_rfl) (by simp) ?_
            intro i hi
            obtain rfl | rfl : i = 1 ∨ i = 3 := by simpa using hi
            · clear hi
              refine opIn_at rfl rfl ?_
              gi_wp2
              refine anyIn_cons (l := [2, 3]) (by kernel_rfl) (by simp) ?_
              intro i hi
              obtain rfl | rfl : i = 2 ∨ i = 3 := by simpa using hi
              · clear hi
                refine opIn_at rfl rfl ?_
                gi_wp2_with fail
                refine ⟨trivial, fun h => (by cases h), (CallsIn.inRound l (callsIn_wide.2 HC.out)).mono ?_⟩
                rintro e V' ⟨rfl, hb'⟩
                have ci2 := (SD.out.below hb').bi.cell
                gi_wp2
                refine anyIn_cons (l := [3]) (by kernel_rfl) (by simp) ?_
                intro i hi
                obtain rfl : i = 3 := by simpa using hi
                clear hi
                refine opIn_at rfl rfl ?_
                gi_wp2
                refine anyIn_cons (l := [4]) (by kernel_rfl) (by simp) ?_
                intro i hi
                obtain rfl : i = 4 := by simpa using hi
                clear hi
                refine opIn_at rfl rfl ?_
                gi_wp2
                exact anyIn_end (by kernel_rfl) ⟨rfl, rfl, hb'⟩
              · clear hi
                refine opIn_at rfl rfl ?_
                gi_wp2
                refine anyIn_cons (l := [2]) (by kernel_rfl) (by simp) ?_
                intro i hi
                obtain rfl : i = 2 := by simpa using hi
                clear hi
                refine opIn_at rfl rfl ?_
                gi_wp2_with fail
                refine ⟨trivial, fun h => (by cases h), (CallsIn.inRound l (callsIn_wide.2 HC.out)).mono ?_⟩
                rintro e V' ⟨rfl, hb'⟩
                have ci2 := (SD.out.below hb').bi.cell
                gi_wp2
                refine anyIn_cons (l := [4]) (by kernel_rfl) (by simp) ?_
                intro i hi
                obtain rfl : i = 4 := by simpa using hi
                clear hi
                refine opIn_at rfl rfl ?_
                gi_wp2
                exact anyIn_end (by kernel_rfl) ⟨rfl, rfl, hb'⟩
            · clear hi
              refine opIn_at rfl rfl ?_
              gi_wp2
              refine anyIn_cons (l := [1]) (by kernel_rfl) (by simp) ?_
              intro i hi
              obtain rfl : i = 1 := by simpa using hi
              clear hi
              refine opIn_at rfl rfl ?_
              gi_wp2
              refine anyIn_cons (l := [2]) (by kernel_rfl) (by simp) ?_
              intro i hi
              obtain rfl : i = 2 := by simpa using hi
              clear hi
              refine opIn_at rfl rfl ?_
              gi_wp2_with fail
              refine ⟨trivial, fun h => (by cases h), (CallsIn.inRound l (callsIn_wide.2 HC.out)).mono ?_⟩
              rintro e V' ⟨rfl, hb'⟩
              have ci2 := (SD.out.below hb').bi.cell
              gi_wp2
              refine anyIn_cons (l := [4]) (by kernel_rfl) (by simp) ?_
              intro i hi
              obtain rfl : i = 4 := by simpa using hi
              clear hi
              refine opIn_at rfl rfl ?_
              gi_wp2
              exact anyIn_end (by kernel_rfl) ⟨rfl, rfl, hb'⟩
          · clear hi
            refine opIn_at rfl rfl ?_
            gi_wp2
            refine anyIn_cons (l := [0, 3]) (by kernel_rfl) (by simp) ?_
            intro i hi
            obtain rfl | rfl : i = 0 ∨ i = 3 := by simpa using hi
            · clear hi
              refine opIn_at rfl rfl ?_
              gi_wp2
              refine anyIn_cons (l := [2, 3]) (by kernel_rfl) (by simp) ?_
              intro i hi
              obtain rfl | rfl : i = 2 ∨ i = 3 := by simpa using hi
              · clear hi
                refine opIn_at rfl rfl ?_
                gi_wp2_with fail
                refine ⟨trivial, fun h => (by cases h), (CallsIn.inRound l (callsIn_wide.2 HC.out)).mono ?_⟩
                rintro e V' ⟨rfl, hb'⟩
                have ci2 := (SD.out.below hb').bi.cell
                gi_wp2
                refine anyIn_cons (l := [3]) (by kernel_rfl) (by simp) ?_
                intro i hi
                obtain rfl : i = 3 := by simpa using hi
                clear hi
                refine opIn_at rfl rfl ?_
                gi_wp2
                refine anyIn_cons (l := [4]) (by kernel_rfl) (by simp) ?_
                intro i hi
                obtain rfl : i = 4 := by simpa using hi
                clear hi
                refine opIn_at rfl rfl ?_
                gi_wp2
                exact anyIn_end (by kernel_rfl) ⟨rfl, rfl, hb'⟩
              · clear hi
                refine opIn_at rfl rfl ?_
                gi_wp2
                refine anyIn_cons (l := [2]) (by kernel_rfl) (by simp) ?_
                intro i hi
                obtain rfl : i = 2 := by simpa using hi
                clear hi
                refine opIn_at rfl rfl ?_
                gi_wp2_with fail
                refine ⟨trivial, fun h => (by cases h), (CallsIn.inRound l (callsIn_wide.2 HC.out)).mono ?_⟩
                rintro e V' ⟨rfl, hb'⟩
                have ci2 := (SD.out.below hb').bi.cell
                gi_wp2
                refine anyIn_cons (l := [4]) (by kernel_rfl) (by simp) ?_
                intro i hi
                obtain rfl : i = 4 := by simpa using hi
                clear hi
                refine opIn_at rfl rfl ?_
                gi_wp2
                exact anyIn_end (by kernel_rfl) ⟨rfl, rfl, hb'⟩
            · clear hi
              refine opIn_at rfl rfl ?_
              gi_wp2
              refine anyIn_cons (l := [0]) (by kernel_rfl) (by simp) ?_
              intro i hi
              obtain rfl : i = 0 := by simpa using hi
              clear hi
              refine opIn_at rfl rfl ?_
              gi_wp2
              refine anyIn_cons (l := [2]) (by kernel_rfl) (by simp) ?_
              intro i hi
              obtain rfl : i = 2 := by simpa using hi
              clear hi
              refine opIn_at rfl rfl ?_
              gi_wp2_with fail
              refine ⟨trivial, fun h => (by cases h), (CallsIn.inRound l (callsIn_wide.2 HC.out)).mono ?_⟩
              rintro e V' ⟨rfl, hb'⟩
              have ci2 := (SD.out.below hb').bi.cell
              gi_wp2
              refine anyIn_cons (l := [4]) (by kernel_rfl) (by simp) ?_
              intro i hi
              obtain rfl : i = 4 := by simpa using hi
              clear hi
              refine opIn_at rfl rfl ?_
              gi_wp2
              exact anyIn_end (by kernel_rfl) ⟨rfl, rfl, hb'⟩
          · clear hi
            refine opIn_at rfl rfl ?_
            gi_wp2
            refine anyIn_cons (l := [0, 1]) (by kernel_rfl) (by simp) ?_
            intro i hi
            obtain rfl | rfl : i = 0 ∨ i = 1 := by simpa using hi
            · clear hi
              refine opIn_at rfl rfl ?_
              gi_wp2
              refine anyIn_cons (l := [1]) (by kernel_rfl) (by simp) ?_
              intro i hi
              obtain rfl : i = 1 := by simpa using hi
              clear hi
              refine opIn_at rfl rfl ?_
              gi_wp2
              refine anyIn_cons (l := [2]) (by kernel_rfl) (by simp) ?_
              intro i hi
              obtain rfl : i = 2 := by simpa using hi
              clear hi
              refine opIn_at rfl rfl ?_
              gi_wp2_with fail
              refine ⟨trivial, fun h => (by cases h), (CallsIn.inRound l (callsIn_wide.2 HC.out)).mono ?_⟩
              rintro e V' ⟨rfl, hb'⟩
              have ci2 := (SD.out.below hb').bi.cell
              gi_wp2
              refine anyIn_cons (l := [4]) (by kernel_rfl) (by simp) ?_
              intro i hi
              obtain rfl : i = 4 := by simpa using hi
              clear hi
              refine opIn_at rfl rfl ?_
              gi_wp2
              exact anyIn_end (by kernel_rfl) ⟨rfl, rfl, hb'⟩
            · clear hi
              refine opIn_at rfl rfl ?_
              gi_wp2
              refine anyIn_cons (l := [0]) (by kernel_rfl) (by simp) ?_
              intro i hi
              obtain rfl : i = 0 := by simpa using hi
              clear hi
              refine opIn_at rfl rfl ?_
              gi_wp2
              refine anyIn_cons (l := [2]) (by kernel_rfl) (by simp) ?_
              intro i hi
              obtain rfl : i = 2 := by simpa using hi
              clear hi
              refine opIn_at rfl rfl ?_
              gi_wp2_with fail
              refine ⟨trivial, fun h => (by cases h), (CallsIn.inRound l (callsIn_wide.2 HC.out)).mono ?_⟩
              rintro e V' ⟨rfl, hb'⟩
              have ci2 := (SD.out.below hb').bi.cell
              gi_wp2
              refine anyIn_cons (l := [4]) (by kernel_rfl) (by simp) ?_
              intro i hi
              obtain rfl : i = 4 := by simpa using hi
              clear hi
              refine opIn_at rfl rfl ?_
              gi_wp2
              exact anyIn_end (by kernel_rfl) ⟨rfl, rfl, hb'⟩
        · rintro e a2 w2 ⟨rfl, rfl, hb2⟩
          have HW := Lib.hid (show Below W.heap.size W w2 from BD.out.trans (hb2.mono BD.out.size))
          have S2 := Lib.hid (SD.out.below hb2)
          have sz := SW.out.sz
          clear hb2 cg ci w0 w1 hWd eg
          gi_wp2
          exact ⟨(keeps_below HW.out).from _, Kt.of_below HW.out sz, v, by rw [HBEL.out]; exact S2.out⟩
  case done =>
    rintro D ys W hD rfl ⟨v, h⟩ hK
    have cv := h.bv.cell
    have RL := Bk.runW_len (Bk.bel k) (Bk.bor a b) ⟨[], false, 0⟩
    have SW := Lib.hid h
    have sz := h.sz
    clear h
    have RE := Bk.runW_is (Bk.bel k) ⟨[], false, 0⟩ (Bk.bor_wrap OA.out.2 OB.out.2)
    rw [RE] at SW RL
    clear RE
    gi_wp2
    refine ⟨by simp, .inl ⟨_, _, rfl, run_takeDeferred hK, ?_⟩⟩
    have rv := ownsRow_putObj (ownsRow_base SW.out.rv (base' := w.heap.size) (by omega)) (.deferred none) hK rfl
    have hb4 := SW.out.be.trans (belowK_b (w := w) (Nat.le_refl _) W D _ (.deferred none) (by omega) hK rfl rfl)
    exact ⟨_, results_tmp2 rfl _ _ _, v, rfl, rv, hb4⟩
  case stop =>
    rintro D c pre W _ _ h _
    exact h.elim
  -- END
end Go.Proofs.YtljackjcgfaanaaGreatDoor.Bo
/- Contracts of Union, Meet, Without, Normal, Length of package blackout. -/
namespace Go.Proofs.YtljackjcgfaanaaGreatDoor.Bk
/-- what Union (1), Meet (2), Without (3) answer -/
def ResR (a b : List (Int × Int)) (k : Int) (l : List (Int × Int)) (r : Int) : Prop := r = err2 a b ∧ ((r = 0 ∧ IsRes a b k l) ∨ (r ≠ 0 ∧ l = []))
theorem err2_ok {a b : List (Int × Int)} (h : err2 a b = 0) : OkL a ∧ OkL b := ⟨errL_zero.1 (err2_zero.1 h).1, errL_zero.1 (err2_zero.1 h).2⟩
theorem resR_ex (a b : List (Int × Int)) (k : Int) : ∃ l r, ResR a b k l r := by
  by_cases h : err2 a b = 0
  · obtain ⟨oa, ob⟩ := err2_ok h
    exact ⟨_, 0, h.symm, .inl ⟨rfl, want_res k oa.2 ob.2⟩⟩
  · exact ⟨[], _, rfl, .inr ⟨h, rfl⟩⟩
theorem ResR.uniq {a b l m : List (Int × Int)} {k r s : Int} (h : ResR a b k l r) (h' : ResR a b k m s) : l = m ∧ r = s := by
  obtain ⟨e, h⟩ := h
  obtain ⟨e', h'⟩ := h'
  have z : r = s := e.trans e'.symm
  subst z
  refine ⟨?_, rfl⟩
  rcases h with h | h <;> rcases h' with h' | h'
  · exact h.2.uniq h'.2
  · exact absurd h.1 h'.1
  · exact absurd h'.1 h.1
  · exact h.2.trans h'.2.symm
theorem ResR.len {a b l : List (Int × Int)} {k r : Int} (h : ResR a b k l r) : l.length ≤ 256 := by
  obtain ⟨e, h | h⟩ := h
  · obtain ⟨z, h⟩ := h
    obtain ⟨oa, ob⟩ := err2_ok (e.symm.trans z)
    rw [h.uniq (run_is k oa.2 ob.2)]
    have h1 := run_len (bel k) (bor a b) ⟨[], false, 0⟩
    have h2 := bor_len a b
    have := oa.1
    have := ob.1
    simp only [List.length_nil] at h1
    omega
  · rw [h.2]; simp
theorem ResR.res {a b l : List (Int × Int)} {k : Int} (h : ResR a b k l 0) : IsRes a b k l := by
  rcases h.2 with q | q
  · exact q.2
  · exact absurd rfl q.1
theorem ResR.no {a b l : List (Int × Int)} {k r : Int} (h : ResR a b k l r) (z : r ≠ 0) : l = [] := by
  rcases h.2 with q | q
  · exact absurd q.1 z
  · exact q.2
theorem errL_nil : errL [] = 0 := rfl
theorem okS_nil : OkS [] := fun x h => by simp at h
theorem okS_one {a b : Int} (ha : okT a) (hb : okT b) (h : a ≤ b) : OkS [(a, b)] := fun x hx => by
  simp only [List.mem_singleton] at hx
  subst hx
  exact ⟨ha, hb, h⟩
/-- what Length answers -/
def LenR (l : List (Int × Int)) (a b n r : Int) : Prop := r = errR l a b ∧ ((r = 0 ∧ n = len l a b) ∨ (r ≠ 0 ∧ n = 0))
theorem LenR.sum {l m : List (Int × Int)} {a b n r : Int} (h : LenR l a b n r) (hm : ResR l [(a, b)] 2 m r) : sumL m = n := by
  by_cases z : r = 0
  · subst z
    have e := errR_zero.1 h.1.symm
    rw [len_is e.2.2.2 hm.res]
    rcases h.2 with q | q
    · exact q.2.symm
    · exact absurd rfl q.1
  · rw [hm.no z]
    rcases h.2 with q | q
    · exact absurd q.1 z
    · exact q.2.symm
theorem ResR.okS {a b l : List (Int × Int)} {k r : Int} (h : ResR a b k l r) : OkS l := by
  by_cases z : r = 0
  · subst z
    obtain ⟨oa, ob⟩ := err2_ok h.1.symm
    exact h.res.ok oa.2 ob.2
  · rw [h.no z]; exact okS_nil
end Go.Proofs.YtljackjcgfaanaaGreatDoor.Bk
namespace Go.Proofs.YtljackjcgfaanaaGreatDoor.Bo
open Go.ChangeShapes Go.RowKit Go.Shelf
theorem bel3 (p q : Bool) (W : World) : Calls Tryz.prog 90 #[.agg #[.bool p, .bool q]] W fun e w' => e = .returned (.bool (Bk.bel 3 p q)) ∧ Below W.heap.size W w' := by
  have HB := Lib.hid ((Below.refl _ W).alloc (Nat.le_refl _) (.cells #[.bool p, .bool q] 102))
  have R : Hid (Bk.bel 3 p q = (p && !q)) := Lib.hid rfl
  cases p with
  | true =>
    go_enter Tryz.func90, Tryz.ntmps90
    go_wp2_with fail
    go_ret
    exact ⟨ret_bool (by rw [R.out]; simp), HB.out⟩
  | false =>
    go_enter Tryz.func90, Tryz.ntmps90
    go_wp2_with fail
    go_ret
    exact ⟨ret_bool (by rw [R.out]; rfl), HB.out⟩

theorem combine_any (g : Nat) (k : Int) (eg : ∀ args w, (callFunc g args).run Tryz.prog w = .ok (.enter g args) w) (hg : BelC g k) (va vb : Value) (a b l : List (Int × Int)) (r : Int) (hr : Bk.ResR a b k l r) (w : World) (ha : RowS w va a) (hb : RowS w vb b) :
    Calls Tryz.prog 89 #[va, vb, .func (.func g) #[] #[]] w fun e w' => ∃ u, e = .returned (.tuple #[u, .int .i64 r]) ∧ OwnS w u l w' := by
  by_cases z : r = 0
  · subst z
    obtain ⟨oa, ob⟩ := Bk.err2_ok hr.1.symm
    rw [hr.res.uniq (Bk.run_is k oa.2 ob.2)]
    exact callsIn_wide.1 (combine_in 5 (by omega) g k eg hg va vb a b w ha hb hr.1.symm)
  · have CK := Lib.hid (fun g W hc hd h1 h2 => check_two g va vb a b r hr.1.symm W hc hd h1 h2)
    have d1 : (r != 0) = true := by rw [bne_iff_ne]; exact z
    have HB := Lib.hid (below_new (below_new (Below.refl _ w) (.cells #[.func (.func g) #[] #[]] 103) (Nat.le_refl _)) (.cells #[va, vb] 27) (Nat.le_refl _))
    have RA := Lib.hid ha
    have RB := Lib.hid hb
    rw [hr.no z]
    obtain ⟨A1, cap1, rfl⟩ := ha.len
    obtain ⟨A2, cap2, rfl⟩ := hb.len
    clear z hr ha hb eg hg
    go_enter Tryz.func89, Tryz.ntmps89
    go_wp2_with fail
    refine (CK.out _ _ (by simp [go_sem]) (by simp [go_sem]) (RA.out.below HB.out) (RB.out.below HB.out)).mono ?_
    rintro e V ⟨rfl, hb⟩
    have B1 : Hid (Below w.heap.size w V) := Lib.hid (below_next HB.out hb)
    clear hb
    go_wp2_with fail
    go_ret2
    exact ⟨_, rfl, .nil B1.out⟩
theorem without_any (va vb : Value) (a b l : List (Int × Int)) (r : Int) (hr : Bk.ResR a b 3 l r) (w : World) (ha : RowS w va a) (hb : RowS w vb b) :
    Calls Tryz.prog 48 #[va, vb] w fun e w' => ∃ u, e = .returned (.tuple #[u, .int .i64 r]) ∧ OwnS w u l w' := by
  have C := Lib.hid (combine_any 90 3 (enters_of Tryz.func90 (by kernel_rfl) rfl) bel3 va vb a b l r hr w ha hb)
  obtain ⟨A1, cap1, rfl⟩ := ha.len
  obtain ⟨A2, cap2, rfl⟩ := hb.len
  clear ha hb hr
  go_enter Tryz.func48, Tryz.ntmps48
  go_wp2_with fail
  refine C.out.mono ?_
  rintro e V ⟨u, rfl, hu⟩
  have HU := Lib.hid hu
  clear hu
  go_wp2_with fail
  go_ret2
  exact ⟨_, rfl, HU.out⟩
end Go.Proofs.YtljackjcgfaanaaGreatDoor.Bo
