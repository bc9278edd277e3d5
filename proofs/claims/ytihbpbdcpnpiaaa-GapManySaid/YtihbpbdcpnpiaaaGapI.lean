/- Contracts of timeAt and of the iterator that goes through two lists of times together. -/
import Derived.RangeFuncBox
import Derived.RangeFuncLeaves
import Derived.Shelf.Abstract
import Derived.OwnWalkIn
import Derived.TacticsInMore
import Derived.LoopNIn
import Derived.LoopIn
import Derived.Sort.QuietIn
import Derived.Test.YtihbpbdcpnpiaaaGapC
import Derived.Test.YtihbpbdcpnpiaaaGapMb
namespace Go.Proofs.Ytihbpbdcpnpiaaa
open Go.ChangeShapes Go.RowKit Go.Shelf

theorem timeAt_any (v : Value) (l : List Int) (k : Nat) (X : Int) (hX : (if k < l.length then l.getD k 0 else 4611686018427387904) = X) (w : World) (h : RowT w v l) :
    Calls Try.prog 54 #[v, .int .i64 k] w fun e w' => e = .returned (.int .i64 X) ∧ w = w' := by
  obtain ⟨h0, A, cap, rfl, c⟩ := h
  by_cases lt : k < l.length
  · rw [if_pos lt] at hX
    have e0 : decide ((k : Int) < (l.length : Int)) = true := by rw [decide_eq_true_iff]; omega
    obtain ⟨b, o, rfl, c2⟩ := c k lt
    rw [hX] at c2
    clear c hX
    go_enter Try.func54, Try.ntmps54
    go_wp2_with fail
    go_ret
    exact ⟨rfl, rfl⟩
  · rw [if_neg lt] at hX
    subst hX
    have e0 : decide ((k : Int) < (l.length : Int)) = false := by rw [decide_eq_false_iff_not]; omega
    clear c
    go_enter Try.func54, Try.ntmps54
    go_wp2_with fail
    go_ret
    exact ⟨rfl, rfl⟩

/-- what a round keeps: what lay ahead of the iterator, but for the caller's own boxes, and all cells but rows of times -/
structure Kt (own : Nat → Prop) (n₀ : Nat) (A B : World) : Prop where
  size : A.heap.size ≤ B.heap.size
  old : ∀ b, b < n₀ → ¬ own b → B.heap[b]? = A.heap[b]?
  keep : ∀ b c t f, ¬ own b → A.heap[b]? = some (.cells c t f) → t ≠ 2 → B.heap[b]? = some (.cells c t f)
theorem Kt.refl (own : Nat → Prop) (n₀ : Nat) (A : World) : Kt own n₀ A A := ⟨Nat.le_refl _, fun _ _ _ => rfl, fun _ _ _ _ _ h _ => h⟩
theorem Kt.trans {own : Nat → Prop} {n₀ : Nat} {A B C : World} (h : Kt own n₀ A B) (k : Kt own n₀ B C) : Kt own n₀ A C :=
  ⟨Nat.le_trans h.size k.size, fun b hb ho => (k.old b hb ho).trans (h.old b hb ho), fun b c t f ho q ht => k.keep b c t f ho (h.keep b c t f ho q ht) ht⟩
theorem Kt.put {own : Nat → Prop} {n₀ : Nat} (W : World) (l : Nat) (o o' : Obj) (hn : n₀ ≤ l) (hl : W.heap[l]? = some o) (ho : o.isCells = false) : Kt own n₀ W (W.putObj l o') :=
  ⟨by simp, fun b hb _ => World.putObj_heap_other (by omega), fun b c t f _ q _ => by
    by_cases e : b = l
    · subst e; rw [hl] at q; cases q; cases ho
    · exact (World.putObj_heap_other e).trans q⟩
theorem Kt.book {own : Nat → Prop} {n₀ : Nat} {w : World} (hn : n₀ ≤ w.heap.size) : ∀ (W : World) (l : Nat) (o o' : Obj), w.heap.size ≤ l → W.heap[l]? = some o → o.isCells = false → o.isWalk = false → Kt own n₀ W (W.putObj l o') :=
  fun W l o o' hl h hc _ => Kt.put W l o o' (Nat.le_trans hn hl) h hc
theorem Kt.of_below {own : Nat → Prop} {n₀ : Nat} {W W' : World} (h : Below W.heap.size W W') (hn : n₀ ≤ W.heap.size) : Kt own n₀ W W' :=
  ⟨h.size, fun b hb _ => h.block b (by omega), fun b _ _ _ _ q _ => (h.block b (Array.getElem?_eq_some_iff.1 q).1).trans q⟩
theorem Kt.drewN {own : Nat → Prop} {n₀ : Nat} {A B : World} (h : Kt own n₀ A B) (m : Nat) : Kt own n₀ A (B.drewN m) := ⟨h.size, h.old, h.keep⟩
theorem Kt.alloc {own : Nat → Prop} {n₀ : Nat} {A B : World} (h : Kt own n₀ A B) (hn : n₀ ≤ A.heap.size) (o : Obj) : Kt own n₀ A (B.alloc o) :=
  h.trans (Kt.of_below ((Below.refl _ _).alloc (Nat.le_refl _) _) (Nat.le_trans hn h.size))
theorem Kt.cell {own : Nat → Prop} {n₀ : Nat} {A B : World} (h : Kt own n₀ A B) {p : Addr} (hp : p.block < n₀) (ho : ¬ own p.block) : B.cell? p = A.cell? p := World.cell?_of_block (h.old p.block hp ho)
theorem Kt.rowT {own : Nat → Prop} {n₀ : Nat} {V A B : World} {v : Value} {l : List Int} (h : Kt own n₀ A B) (hV : Below V.heap.size V A) (ho : ∀ b, own b → V.heap.size ≤ b) (hn : V.heap.size ≤ n₀) (r : RowT V v l) : RowT B v l := by
  obtain ⟨h0, C, cap, e, c⟩ := r
  refine ⟨h0, C, cap, e, fun j hj => ?_⟩
  obtain ⟨b, o, e1, e2⟩ := c j hj
  have hb := lt_of_cell e2
  refine ⟨b, o, e1, ?_⟩
  rw [h.cell (p := ⟨b, o + j, none⟩) (by show b < n₀; omega) (fun q => by have := ho b q; omega), hV.cell (p := ⟨b, o + j, none⟩) hb]
  exact e2
theorem grown_drewN (W : World) (n : Nat) : W.grownBy (W.drewN n) none := ⟨rfl, rfl, rfl, Nat.le_refl _, fun _ _ _ => rfl⟩
theorem abides_drewN {β : Type} {B : Nat} {J : β → World → Prop} (h : AbidesFrom B J) {s : β} {W : World} (hs : J s W) (n : Nat) : J s (W.drewN n) :=
  h s W _ none hs (grown_drewN W n) (fun _ e => by cases e)
theorem abides_alloc {β : Type} {B : Nat} {J : β → World → Prop} (h : AbidesFrom B J) {s : β} {W : World} (hs : J s W) (o : Obj) : J s (W.alloc o) :=
  h s W _ none hs (World.grownBy_alloc W o none) (fun _ e => by cases e)
/-- a time with who has it, as Go has it -/
def mgV (x : Int × Bool × Bool) : Array Value := #[.int .i64 x.1, .agg #[.bool x.2.1, .bool x.2.2]]

section
attribute [local go_sem] Oper.semAt_some
set_option maxRecDepth 100000 in
set_option maxHeartbeats 4000000 in
theorem iter_in (n : Nat) (hn : 3 ≤ n) (l Ba Bb : Nat) (va vb : Value) (a b : List Int) (ta : Gp.Tl a) (tb : Gp.Tl b) (own : Nat → Prop) (n₀ : Nat) (V w : World) (B : Nat) (J Jx : List (Int × Bool × Bool) → World → Prop) (hJ : AbidesFrom B J)
    (hw : n₀ = w.heap.size) (hV : Below V.heap.size V w) (hown : ∀ b, own b → V.heap.size ≤ b ∧ b < n₀) (ra : RowT V va a) (rb : RowT V vb b) (hBa : Ba < n₀) (hBb : Bb < n₀) (oa : ¬ own Ba) (ob : ¬ own Bb)
    (ca : w.cell? ⟨Ba, 0, none⟩ = some va) (cb : w.cell? ⟨Bb, 0, none⟩ = some vb)
    (hY : ∀ pre x W, J pre W → pre.length < (Gp.mg a b).length → YieldAt Fence.wide (n - 1) Try.prog l (mgV x) W fun e W' =>
      (e = .returned (.bool true) ∧ J (pre ++ [x]) W' ∧ Kt own n₀ W W') ∨ (e = .returned (.bool false) ∧ Jx (pre ++ [x]) W'))
    (W : World) (hW : Below w.heap.size w W) (h0 : J [] W) :
    CallsIn Fence.wide n Try.prog 53 #[.func (.yield l) #[] #[], .pointer (some ⟨Ba, 0, none⟩), .pointer (some ⟨Bb, 0, none⟩)] W fun e W' => (∃ v, e = .returned v) ∧
      ((∃ ys, ys = Gp.mg a b ∧ J ys W') ∨ (∃ pre, pre <+: Gp.mg a b ∧ Jx pre W')) := by
  have K0 : Hid (Kt own n₀ w W) := Lib.hid (Kt.of_below hW (Nat.le_of_eq hw))
  have RA := Lib.hid (fun W' (k : Kt own n₀ w W') => k.rowT hV (fun b q => (hown b q).1) (by rw [hw]; exact hV.size) ra)
  have RB := Lib.hid (fun W' (k : Kt own n₀ w W') => k.rowT hV (fun b q => (hown b q).1) (by rw [hw]; exact hV.size) rb)
  have CA := Lib.hid (fun W' (k : Kt own n₀ w W') => (k.cell (p := ⟨Ba, 0, none⟩) hBa oa).trans ca)
  have CB := Lib.hid (fun W' (k : Kt own n₀ w W') => (k.cell (p := ⟨Bb, 0, none⟩) hBb ob).trans cb)
  have HY := Lib.hid hY
  have TA := Lib.hid ta
  have TB := Lib.hid tb
  have HO := Lib.hid (fun b (q : own b) => (hown b q).2)
  have LA := ra.1
  have LB := rb.1
  have HN := Lib.hid hw
  have HW := Lib.hid hW.size
  have FA := Lib.hid (fun k X hX W0 (h : RowT W0 va a) => timeAt_any va a k X hX W0 h)
  have FB := Lib.hid (fun k X hX W0 (h : RowT W0 vb b) => timeAt_any vb b k X hX W0 h)
  obtain ⟨_, A1, cap1, rfl, _⟩ := ra
  obtain ⟨_, A2, cap2, rfl, _⟩ := rb
  clear hY ta tb hown hW hw ca cb hV
  refine callsIn_of_wp Try.func53 rfl trivial ?_ rfl
  simp only [Try.ntmps53, List.size_toArray, List.length_cons, List.length_nil, Nat.reduceAdd, Nat.reduceSub, Array.replicate_succ, Array.replicate_zero, List.push_toArray, List.append_toArray, List.nil_append, List.cons_append]
  gi_wp2
  gi_loopw [4, 5] (fun iv jv wr => ∃ (i j : Nat) (pre : List (Int × Bool × Bool)), i ≤ a.length ∧ j ≤ b.length ∧ iv = .int .i64 i ∧ jv = .int .i64 j ∧ Hid (Gp.mg a b = pre ++ Gp.mg (a.drop i) (b.drop j)) ∧ J pre wr ∧ Hid (Kt own n₀ w wr)) (fun iv jv _ => a.length + b.length - (intOf iv).toNat - (intOf jv).toNat)
  case atStart => exact ⟨0, 0, [], by omega, by omega, rfl, rfl, Lib.hid rfl, h0, K0⟩
  case round =>
    obtain ⟨i, j, pre, hi, hj, rfl, rfl, hm, hJs, hk⟩ := hrel
    have cA := CA.out _ hk.out
    have cB := CB.out _ hk.out
    by_cases li : i < a.length
    · have di : decide ((i : Int) < (a.length : Int)) = true := by rw [decide_eq_true_iff]; omega
      have wi : IntKind.i64.wrap ((i : Int) + 1) = (i : Int) + 1 := by rw [IntKind.wrap_i64]; omega
      have DA := List.drop_eq_getElem_cons li
      have ex : a.getD i 0 = a[i] := by simp [li]
      rw [← ex] at DA
      have xo := TA.out.ok _ (Gp.getD_mem li)
      have FX := Lib.hid (FA.out i (a.getD i 0) (if_pos li))
      obtain ⟨X, hX⟩ : ∃ X, a.getD i 0 = X := ⟨_, rfl⟩
      rw [hX] at DA xo FX
      unfold Gp.okT at xo
      clear ex hX
      by_cases lj : j < b.length
      · have dj : decide ((j : Int) < (b.length : Int)) = true := by rw [decide_eq_true_iff]; omega
        have wj : IntKind.i64.wrap ((j : Int) + 1) = (j : Int) + 1 := by rw [IntKind.wrap_i64]; omega
        have DB := List.drop_eq_getElem_cons lj
        have ey : b.getD j 0 = b[j] := by simp [lj]
        rw [← ey] at DB
        have yo := TB.out.ok _ (Gp.getD_mem lj)
        have FY := Lib.hid (FB.out j (b.getD j 0) (if_pos lj))
        obtain ⟨Y, hY⟩ : ∃ Y, b.getD j 0 = Y := ⟨_, rfl⟩
        rw [hY] at DB yo FY
        unfold Gp.okT at yo
        clear ey hY
        by_cases c : X < Y
        · have HM : Hid (Gp.mg a b = pre ++ (X, true, false) :: Gp.mg (a.drop (i + 1)) (b.drop j)) := Lib.hid (by rw [hm.out, DA, DB, Gp.mg, if_pos c])
          have t1 : (Y == X) = false := by rw [beq_eq_false_iff_ne]; omega
          have t2 : ¬ Y < X := by omega
          have t3 : decide (X < Y) = true := decide_eq_true c
          clear hm DA DB
          gi_wp2
          refine wpIn_region_quiet_lit rfl (by kernel_rfl) (by kernel_rfl) ?_
          iterate 2 (gi_big_quiet_step (fail))
          refine wpQuietIn_step (fun _ _ _ _ => trivial) (fun K hK => ?_)
          go_simp
          refine ⟨_, fun _ => ⟨fun _ => by omega, (callsIn_wide.2 (FX.out _ ((RA.out _ hk.out).drewN _))).mono fun _ _ ⟨h1, h2⟩ => ⟨h1, _, h2.symm⟩⟩, hK _ ?_⟩
          clear hK K
          iterate 2 (gi_big_quiet_step (fail))
          refine wpQuietIn_step (fun _ _ _ _ => trivial) (fun K hK => ?_)
          go_simp
          refine ⟨_, fun _ => ⟨fun _ => by omega, (callsIn_wide.2 (FY.out _ ((RB.out _ hk.out).drewN _))).mono fun _ _ ⟨h1, h2⟩ => ⟨h1, _, h2.symm⟩⟩, hK _ ?_⟩
          clear hK K
          iterate 2 (gi_big_quiet_step (fail))
          refine wpQuietIn_nil ?_
          intro _ hw'
          obtain ⟨nq, rfl⟩ := hw'
          have hJ1 := abides_drewN hJ hJs nq
          have K1 := Lib.hid (hk.out.drewN nq)
          obtain ⟨W1, hW1⟩ : ∃ W1, wr.drewN nq = W1 := ⟨_, rfl⟩
          rw [hW1] at hJ1 K1 ⊢
          clear hW1 hJs hk cA cB
          have hlen : pre.length < (Gp.mg a b).length := by rw [HM.out]; simp
          have nw : n₀ ≤ W1.heap.size := by rw [HN.out]; exact K1.out.size
          have nn : ¬ own W1.heap.size := fun q => by have := HO.out _ q; omega
          have K2 := Lib.hid (K1.out.alloc (Nat.le_of_eq HN.out) (.cells #[.bool true, .bool false] 63))
          obtain ⟨fn, tmps, assign, body, hy, hR⟩ := HY.out pre (X, true, false) _ (abides_alloc hJ hJ1 (.cells #[.bool true, .bool false] 63)) hlen
          have NW := Lib.hid (And.intro nw nn)
          simp only [mgV] at hy
          clear hlen nw nn hJ1 K1
          gi_wp2
          refine ⟨fun _ => by omega, hR.mono ?_⟩
          rintro e W3 (⟨rfl, hJ3, hk3⟩ | ⟨rfl, hJx3⟩)
          · have q := hk3.keep W1.heap.size _ _ _ NW.out.2 (World.alloc_heap_new W1 (.cells #[.bool true, .bool false] 63)) (by decide)
            have c0 : W3.cell? ⟨W1.heap.size, 0, none⟩ = some (.bool true) := by simp [World.cell?, q]
            have c1 : W3.cell? ⟨W1.heap.size, 1, none⟩ = some (.bool false) := by simp [World.cell?, q]
            have K3 := Lib.hid (K2.out.trans hk3)
            clear q hk3 hR hy
            gi_wp2
            go_roundw
            case rel => exact ⟨(i+1), j, pre ++ [(X, true, false)], by omega, by omega, by first | rfl | go_num, by first | rfl | go_num, Lib.hid (by rw [HM.out, List.append_assoc]; rfl), hJ3, K3⟩
            case measure => simp [intOf] <;> omega
          · clear hR hy
            gi_wp2
            refine bodyPost_ret (results_none rfl _ _ _) rfl ?_
            exact ⟨⟨_, rfl⟩, .inr ⟨pre ++ [(X, true, false)], ⟨_, by rw [HM.out, List.append_assoc]; rfl⟩, hJx3⟩⟩
        · by_cases c2 : Y < X
          · have HM : Hid (Gp.mg a b = pre ++ (Y, false, true) :: Gp.mg (a.drop i) (b.drop (j + 1))) := Lib.hid (by rw [hm.out, DA, DB, Gp.mg, if_neg c, if_pos c2])
            have t1 : (X == Y) = false := by rw [beq_eq_false_iff_ne]; omega
            have t3 : decide (Y < X) = true := decide_eq_true c2
            clear hm DA DB
            gi_wp2
            refine wpIn_region_quiet_lit rfl (by kernel_rfl) (by kernel_rfl) ?_
            iterate 2 (gi_big_quiet_step (fail))
            refine wpQuietIn_step (fun _ _ _ _ => trivial) (fun K hK => ?_)
            go_simp
            refine ⟨_, fun _ => ⟨fun _ => by omega, (callsIn_wide.2 (FX.out _ ((RA.out _ hk.out).drewN _))).mono fun _ _ ⟨h1, h2⟩ => ⟨h1, _, h2.symm⟩⟩, hK _ ?_⟩
            clear hK K
            iterate 2 (gi_big_quiet_step (fail))
            refine wpQuietIn_step (fun _ _ _ _ => trivial) (fun K hK => ?_)
            go_simp
            refine ⟨_, fun _ => ⟨fun _ => by omega, (callsIn_wide.2 (FY.out _ ((RB.out _ hk.out).drewN _))).mono fun _ _ ⟨h1, h2⟩ => ⟨h1, _, h2.symm⟩⟩, hK _ ?_⟩
            clear hK K
            iterate 2 (gi_big_quiet_step (fail))
            refine wpQuietIn_nil ?_
            intro _ hw'
            obtain ⟨nq, rfl⟩ := hw'
            have hJ1 := abides_drewN hJ hJs nq
            have K1 := Lib.hid (hk.out.drewN nq)
            obtain ⟨W1, hW1⟩ : ∃ W1, wr.drewN nq = W1 := ⟨_, rfl⟩
            rw [hW1] at hJ1 K1 ⊢
            clear hW1 hJs hk cA cB
            have hlen : pre.length < (Gp.mg a b).length := by rw [HM.out]; simp
            have nw : n₀ ≤ W1.heap.size := by rw [HN.out]; exact K1.out.size
            have nn : ¬ own W1.heap.size := fun q => by have := HO.out _ q; omega
            have K2 := Lib.hid (K1.out.alloc (Nat.le_of_eq HN.out) (.cells #[.bool false, .bool true] 63))
            obtain ⟨fn, tmps, assign, body, hy, hR⟩ := HY.out pre (Y, false, true) _ (abides_alloc hJ hJ1 (.cells #[.bool false, .bool true] 63)) hlen
            have NW := Lib.hid (And.intro nw nn)
            simp only [mgV] at hy
            clear hlen nw nn hJ1 K1
            gi_wp2
            refine ⟨fun _ => by omega, hR.mono ?_⟩
            rintro e W3 (⟨rfl, hJ3, hk3⟩ | ⟨rfl, hJx3⟩)
            · have q := hk3.keep W1.heap.size _ _ _ NW.out.2 (World.alloc_heap_new W1 (.cells #[.bool false, .bool true] 63)) (by decide)
              have c0 : W3.cell? ⟨W1.heap.size, 0, none⟩ = some (.bool false) := by simp [World.cell?, q]
              have c1 : W3.cell? ⟨W1.heap.size, 1, none⟩ = some (.bool true) := by simp [World.cell?, q]
              have K3 := Lib.hid (K2.out.trans hk3)
              clear q hk3 hR hy
              gi_wp2
              go_roundw
              case rel => exact ⟨i, (j+1), pre ++ [(Y, false, true)], by omega, by omega, by first | rfl | go_num, by first | rfl | go_num, Lib.hid (by rw [HM.out, List.append_assoc]; rfl), hJ3, K3⟩
              case measure => simp [intOf] <;> omega
            · clear hR hy
              gi_wp2
              refine bodyPost_ret (results_none rfl _ _ _) rfl ?_
              exact ⟨⟨_, rfl⟩, .inr ⟨pre ++ [(Y, false, true)], ⟨_, by rw [HM.out, List.append_assoc]; rfl⟩, hJx3⟩⟩
          · have e : X = Y := by omega
            subst e
            have HM : Hid (Gp.mg a b = pre ++ (X, true, true) :: Gp.mg (a.drop (i + 1)) (b.drop (j + 1))) := Lib.hid (by rw [hm.out, DA, DB, Gp.mg, if_neg c, if_neg c2])
            clear hm DA DB
            gi_wp2
            refine wpIn_region_quiet_lit rfl (by kernel_rfl) (by kernel_rfl) ?_
            iterate 2 (gi_big_quiet_step (fail))
            refine wpQuietIn_step (fun _ _ _ _ => trivial) (fun K hK => ?_)
            go_simp
            refine ⟨_, fun _ => ⟨fun _ => by omega, (callsIn_wide.2 (FX.out _ ((RA.out _ hk.out).drewN _))).mono fun _ _ ⟨h1, h2⟩ => ⟨h1, _, h2.symm⟩⟩, hK _ ?_⟩
            clear hK K
            iterate 2 (gi_big_quiet_step (fail))
            refine wpQuietIn_step (fun _ _ _ _ => trivial) (fun K hK => ?_)
            go_simp
            refine ⟨_, fun _ => ⟨fun _ => by omega, (callsIn_wide.2 (FY.out _ ((RB.out _ hk.out).drewN _))).mono fun _ _ ⟨h1, h2⟩ => ⟨h1, _, h2.symm⟩⟩, hK _ ?_⟩
            clear hK K
            iterate 2 (gi_big_quiet_step (fail))
            refine wpQuietIn_nil ?_
            intro _ hw'
            obtain ⟨nq, rfl⟩ := hw'
            have hJ1 := abides_drewN hJ hJs nq
            have K1 := Lib.hid (hk.out.drewN nq)
            obtain ⟨W1, hW1⟩ : ∃ W1, wr.drewN nq = W1 := ⟨_, rfl⟩
            rw [hW1] at hJ1 K1 ⊢
            clear hW1 hJs hk cA cB
            have hlen : pre.length < (Gp.mg a b).length := by rw [HM.out]; simp
            have nw : n₀ ≤ W1.heap.size := by rw [HN.out]; exact K1.out.size
            have nn : ¬ own W1.heap.size := fun q => by have := HO.out _ q; omega
            have K2 := Lib.hid (K1.out.alloc (Nat.le_of_eq HN.out) (.cells #[.bool true, .bool true] 63))
            obtain ⟨fn, tmps, assign, body, hy, hR⟩ := HY.out pre (X, true, true) _ (abides_alloc hJ hJ1 (.cells #[.bool true, .bool true] 63)) hlen
            have NW := Lib.hid (And.intro nw nn)
            simp only [mgV] at hy
            clear hlen nw nn hJ1 K1
            gi_wp2
            refine ⟨fun _ => by omega, hR.mono ?_⟩
            rintro e W3 (⟨rfl, hJ3, hk3⟩ | ⟨rfl, hJx3⟩)
            · have q := hk3.keep W1.heap.size _ _ _ NW.out.2 (World.alloc_heap_new W1 (.cells #[.bool true, .bool true] 63)) (by decide)
              have c0 : W3.cell? ⟨W1.heap.size, 0, none⟩ = some (.bool true) := by simp [World.cell?, q]
              have c1 : W3.cell? ⟨W1.heap.size, 1, none⟩ = some (.bool true) := by simp [World.cell?, q]
              have K3 := Lib.hid (K2.out.trans hk3)
              clear q hk3 hR hy
              gi_wp2
              go_roundw
              case rel => exact ⟨(i+1), (j+1), pre ++ [(X, true, true)], by omega, by omega, by first | rfl | go_num, by first | rfl | go_num, Lib.hid (by rw [HM.out, List.append_assoc]; rfl), hJ3, K3⟩
              case measure => simp [intOf] <;> omega
            · clear hR hy
              gi_wp2
              refine bodyPost_ret (results_none rfl _ _ _) rfl ?_
              exact ⟨⟨_, rfl⟩, .inr ⟨pre ++ [(X, true, true)], ⟨_, by rw [HM.out, List.append_assoc]; rfl⟩, hJx3⟩⟩
      · have dj : decide ((j : Int) < (b.length : Int)) = false := by rw [decide_eq_false_iff_not]; omega
        have DB : b.drop j = [] := List.drop_of_length_le (by omega)
        have FY := Lib.hid (FB.out j 4611686018427387904 (if_neg lj))
        have HM : Hid (Gp.mg a b = pre ++ (X, true, false) :: Gp.mg (a.drop (i + 1)) (b.drop j)) := Lib.hid (by rw [hm.out, DA, DB, Gp.mg])
        have t1 : (4611686018427387904 == X) = false := by rw [beq_eq_false_iff_ne]; omega
        have c : X < 4611686018427387904 := by omega
        have t2 : ¬ 4611686018427387904 < X := by omega
        clear hm DA DB
        gi_wp2
        refine wpIn_region_quiet_lit rfl (by kernel_rfl) (by kernel_rfl) ?_
        iterate 2 (gi_big_quiet_step (fail))
        refine wpQuietIn_step (fun _ _ _ _ => trivial) (fun K hK => ?_)
        go_simp
        refine ⟨_, fun _ => ⟨fun _ => by omega, (callsIn_wide.2 (FX.out _ ((RA.out _ hk.out).drewN _))).mono fun _ _ ⟨h1, h2⟩ => ⟨h1, _, h2.symm⟩⟩, hK _ ?_⟩
        clear hK K
        iterate 2 (gi_big_quiet_step (fail))
        refine wpQuietIn_step (fun _ _ _ _ => trivial) (fun K hK => ?_)
        go_simp
        refine ⟨_, fun _ => ⟨fun _ => by omega, (callsIn_wide.2 (FY.out _ ((RB.out _ hk.out).drewN _))).mono fun _ _ ⟨h1, h2⟩ => ⟨h1, _, h2.symm⟩⟩, hK _ ?_⟩
        clear hK K
        iterate 2 (gi_big_quiet_step (fail))
        refine wpQuietIn_nil ?_
        intro _ hw'
        obtain ⟨nq, rfl⟩ := hw'
        have hJ1 := abides_drewN hJ hJs nq
        have K1 := Lib.hid (hk.out.drewN nq)
        obtain ⟨W1, hW1⟩ : ∃ W1, wr.drewN nq = W1 := ⟨_, rfl⟩
        rw [hW1] at hJ1 K1 ⊢
        clear hW1 hJs hk cA cB
        have hlen : pre.length < (Gp.mg a b).length := by rw [HM.out]; simp
        have nw : n₀ ≤ W1.heap.size := by rw [HN.out]; exact K1.out.size
        have nn : ¬ own W1.heap.size := fun q => by have := HO.out _ q; omega
        have K2 := Lib.hid (K1.out.alloc (Nat.le_of_eq HN.out) (.cells #[.bool true, .bool false] 63))
        obtain ⟨fn, tmps, assign, body, hy, hR⟩ := HY.out pre (X, true, false) _ (abides_alloc hJ hJ1 (.cells #[.bool true, .bool false] 63)) hlen
        have NW := Lib.hid (And.intro nw nn)
        simp only [mgV] at hy
        clear hlen nw nn hJ1 K1
        gi_wp2
        refine ⟨fun _ => by omega, hR.mono ?_⟩
        rintro e W3 (⟨rfl, hJ3, hk3⟩ | ⟨rfl, hJx3⟩)
        · have q := hk3.keep W1.heap.size _ _ _ NW.out.2 (World.alloc_heap_new W1 (.cells #[.bool true, .bool false] 63)) (by decide)
          have c0 : W3.cell? ⟨W1.heap.size, 0, none⟩ = some (.bool true) := by simp [World.cell?, q]
          have c1 : W3.cell? ⟨W1.heap.size, 1, none⟩ = some (.bool false) := by simp [World.cell?, q]
          have K3 := Lib.hid (K2.out.trans hk3)
          clear q hk3 hR hy
          gi_wp2
          go_roundw
          case rel => exact ⟨(i+1), j, pre ++ [(X, true, false)], by omega, by omega, by first | rfl | go_num, by first | rfl | go_num, Lib.hid (by rw [HM.out, List.append_assoc]; rfl), hJ3, K3⟩
          case measure => simp [intOf] <;> omega
        · clear hR hy
          gi_wp2
          refine bodyPost_ret (results_none rfl _ _ _) rfl ?_
          exact ⟨⟨_, rfl⟩, .inr ⟨pre ++ [(X, true, false)], ⟨_, by rw [HM.out, List.append_assoc]; rfl⟩, hJx3⟩⟩
    · have di : decide ((i : Int) < (a.length : Int)) = false := by rw [decide_eq_false_iff_not]; omega
      have DA : a.drop i = [] := List.drop_of_length_le (by omega)
      have FX := Lib.hid (FA.out i 4611686018427387904 (if_neg li))
      by_cases lj : j < b.length
      · have dj : decide ((j : Int) < (b.length : Int)) = true := by rw [decide_eq_true_iff]; omega
        have wj : IntKind.i64.wrap ((j : Int) + 1) = (j : Int) + 1 := by rw [IntKind.wrap_i64]; omega
        have DB := List.drop_eq_getElem_cons lj
        have ey : b.getD j 0 = b[j] := by simp [lj]
        rw [← ey] at DB
        have yo := TB.out.ok _ (Gp.getD_mem lj)
        have FY := Lib.hid (FB.out j (b.getD j 0) (if_pos lj))
        obtain ⟨Y, hY⟩ : ∃ Y, b.getD j 0 = Y := ⟨_, rfl⟩
        rw [hY] at DB yo FY
        unfold Gp.okT at yo
        clear ey hY
        have HM : Hid (Gp.mg a b = pre ++ (Y, false, true) :: Gp.mg (a.drop i) (b.drop (j + 1))) := Lib.hid (by rw [hm.out, DA, DB, Gp.mg])
        have t1 : (4611686018427387904 == Y) = false := by rw [beq_eq_false_iff_ne]; omega
        have c2 : Y < 4611686018427387904 := by omega
        have c : ¬ 4611686018427387904 < Y := by omega
        clear hm DA DB
        gi_wp2
        refine wpIn_region_quiet_lit rfl (by kernel_rfl) (by kernel_rfl) ?_
        iterate 2 (gi_big_quiet_step (fail))
        refine wpQuietIn_step (fun _ _ _ _ => trivial) (fun K hK => ?_)
        go_simp
        refine ⟨_, fun _ => ⟨fun _ => by omega, (callsIn_wide.2 (FX.out _ ((RA.out _ hk.out).drewN _))).mono fun _ _ ⟨h1, h2⟩ => ⟨h1, _, h2.symm⟩⟩, hK _ ?_⟩
        clear hK K
        iterate 2 (gi_big_quiet_step (fail))
        refine wpQuietIn_step (fun _ _ _ _ => trivial) (fun K hK => ?_)
        go_simp
        refine ⟨_, fun _ => ⟨fun _ => by omega, (callsIn_wide.2 (FY.out _ ((RB.out _ hk.out).drewN _))).mono fun _ _ ⟨h1, h2⟩ => ⟨h1, _, h2.symm⟩⟩, hK _ ?_⟩
        clear hK K
        iterate 2 (gi_big_quiet_step (fail))
        refine wpQuietIn_nil ?_
        intro _ hw'
        obtain ⟨nq, rfl⟩ := hw'
        have hJ1 := abides_drewN hJ hJs nq
        have K1 := Lib.hid (hk.out.drewN nq)
        obtain ⟨W1, hW1⟩ : ∃ W1, wr.drewN nq = W1 := ⟨_, rfl⟩
        rw [hW1] at hJ1 K1 ⊢
        clear hW1 hJs hk cA cB
        have hlen : pre.length < (Gp.mg a b).length := by rw [HM.out]; simp
        have nw : n₀ ≤ W1.heap.size := by rw [HN.out]; exact K1.out.size
        have nn : ¬ own W1.heap.size := fun q => by have := HO.out _ q; omega
        have K2 := Lib.hid (K1.out.alloc (Nat.le_of_eq HN.out) (.cells #[.bool false, .bool true] 63))
        obtain ⟨fn, tmps, assign, body, hy, hR⟩ := HY.out pre (Y, false, true) _ (abides_alloc hJ hJ1 (.cells #[.bool false, .bool true] 63)) hlen
        have NW := Lib.hid (And.intro nw nn)
        simp only [mgV] at hy
        clear hlen nw nn hJ1 K1
        gi_wp2
        refine ⟨fun _ => by omega, hR.mono ?_⟩
        rintro e W3 (⟨rfl, hJ3, hk3⟩ | ⟨rfl, hJx3⟩)
        · have q := hk3.keep W1.heap.size _ _ _ NW.out.2 (World.alloc_heap_new W1 (.cells #[.bool false, .bool true] 63)) (by decide)
          have c0 : W3.cell? ⟨W1.heap.size, 0, none⟩ = some (.bool false) := by simp [World.cell?, q]
          have c1 : W3.cell? ⟨W1.heap.size, 1, none⟩ = some (.bool true) := by simp [World.cell?, q]
          have K3 := Lib.hid (K2.out.trans hk3)
          clear q hk3 hR hy
          gi_wp2
          go_roundw
          case rel => exact ⟨i, (j+1), pre ++ [(Y, false, true)], by omega, by omega, by first | rfl | go_num, by first | rfl | go_num, Lib.hid (by rw [HM.out, List.append_assoc]; rfl), hJ3, K3⟩
          case measure => simp [intOf] <;> omega
        · clear hR hy
          gi_wp2
          refine bodyPost_ret (results_none rfl _ _ _) rfl ?_
          exact ⟨⟨_, rfl⟩, .inr ⟨pre ++ [(Y, false, true)], ⟨_, by rw [HM.out, List.append_assoc]; rfl⟩, hJx3⟩⟩
      · have dj : decide ((j : Int) < (b.length : Int)) = false := by rw [decide_eq_false_iff_not]; omega
        have DB : b.drop j = [] := List.drop_of_length_le (by omega)
        have HM : Hid (Gp.mg a b = pre) := Lib.hid (by rw [hm.out, DA, DB, Gp.mg, List.append_nil])
        clear hm DA DB
        gi_wp2
        go_end0
        exact ⟨⟨_, rfl⟩, .inl ⟨pre, HM.out.symm, hJs⟩⟩
end
end Go.Proofs.Ytihbpbdcpnpiaaa
