/- Contract of Merge of package gap. -/
import Derived.Test.YtihbpbdcpnpiaaaGapI
namespace Go.Proofs.Ytihbpbdcpnpiaaa
open Go.ChangeShapes Go.RowKit Go.Shelf

theorem together_any (A1 A2 : Option Addr) (n1 c1 n2 c2 : Nat) (va vb : Value) (ea : va = .slice A1 n1 c1) (eb : vb = .slice A2 n2 c2) (w : World) :
    Calls Try.prog 46 #[va, vb] w fun e w' => e = .returned (.func (.func 53) #[] #[.pointer (some ⟨w.heap.size, 0, none⟩), .pointer (some ⟨w.heap.size + 1, 0, none⟩)]) ∧
      Boxed w' w.heap.size 22 va ∧ Boxed w' (w.heap.size + 1) 22 vb ∧ Below w.heap.size w w' ∧ w'.heap.size = w.heap.size + 2 := by
  subst ea eb
  obtain ⟨va, ea⟩ : ∃ v : Value, Value.slice A1 n1 c1 = v := ⟨_, rfl⟩
  obtain ⟨vb, eb⟩ : ∃ v : Value, Value.slice A2 n2 c2 = v := ⟨_, rfl⟩
  rw [ea, eb]
  have B1 := Boxed.new w 22 va
  have B2 := Boxed.new (w.alloc (.cells #[va] 22)) 22 vb
  rw [World.size_alloc] at B2
  have F := Lib.hid (And.intro (B1.alloc (.cells #[vb] 22)) (And.intro B2 (((Below.refl _ w).alloc (Nat.le_refl _) (.cells #[va] 22)).alloc (by simp) (.cells #[vb] 22))))
  clear B1 B2
  subst ea eb
  go_enter Try.func46, Try.ntmps46
  go_wp2_with fail
  go_ret
  exact ⟨rfl, F.out.1, F.out.2.1, F.out.2.2, by simp⟩
theorem together_stops (own : Nat → Prop) (n : Nat) (hn : 3 ≤ n) (Ba Bb : Nat) (va vb : Value) (a b : List Int) (ta : Gp.Tl a) (tb : Gp.Tl b) (V w : World)
    (hV : Below V.heap.size V w) (hown : ∀ b, own b → V.heap.size ≤ b ∧ b < w.heap.size) (ra : RowT V va a) (rb : RowT V vb b) (oa : ¬ own Ba) (ob : ¬ own Bb)
    (ca : Boxed w Ba 22 va) (cb : Boxed w Bb 22 vb) :
    SeqStopsK Fence.wide n Try.prog 53 #[.pointer (some ⟨Ba, 0, none⟩), .pointer (some ⟨Bb, 0, none⟩)] mgV (Kt own w.heap.size) (fun ys => ys = Gp.mg a b) (fun pre => pre <+: Gp.mg a b) (Gp.mg a b).length w := fun l J Jx W hW hJ _ hY h0 =>
  iter_in n hn l Ba Bb va vb a b ta tb own w.heap.size V w W.heap.size J Jx hJ rfl hV hown ra rb ca.lt cb.lt oa ob ca.cell cb.cell hY W hW h0
/-- a store into the caller's own box, behind an append to the caller's own row -/
theorem Kt.append {own : Nat → Prop} {n₀ base : Nat} {W w1 : World} {B : Nat} {v v' : Value} {k : Nat} {xs : List Value} {tmp : Obj} (hB : own B) (hb : n₀ ≤ base) (hrow : W.ownsRow base 2 1 v k xs)
    (hgrow : (W.alloc tmp).grownBy w1 v.ownBlock) (hn : n₀ ≤ W.heap.size) : Kt own n₀ W (w1.setCell ⟨B, 0, none⟩ v') := by
  have hs := (grownBy_setCell' w1 B v').size
  have hs2 := hgrow.size
  rw [World.size_alloc] at hs2
  refine ⟨by omega, fun b hb1 ho => ?_, fun b c t f ho q ht => ?_⟩
  · rw [Below.heap_setCell _ _ _ b (fun e => ho (by rw [e]; exact hB))]
    rw [hgrow.block b (by rw [World.size_alloc]; omega) ?_]
    · exact ((Below.refl _ W).alloc (Nat.le_refl _) tmp).block b (by omega)
    · rcases hrow.2 with ⟨rfl, _⟩ | ⟨g, cap, cur, rfl, hg, _⟩
      · simp [Value.ownBlock]
      · intro e
        obtain rfl : b = g := by simpa [Value.ownBlock] using e
        omega
  · have hlt := (Array.getElem?_eq_some_iff.1 q).1
    rw [Below.heap_setCell _ _ _ b (fun e => ho (by rw [e]; exact hB))]
    rw [hgrow.block b (by rw [World.size_alloc]; omega) ?_]
    · exact (((Below.refl _ W).alloc (Nat.le_refl _) tmp).block b hlt).trans q
    · rcases hrow.2 with ⟨rfl, _⟩ | ⟨g, cap, cur, rfl, hg, hgb, _⟩
      · simp [Value.ownBlock]
      · intro e
        obtain rfl : b = g := by simpa [Value.ownBlock] using e
        rw [hgb] at q
        cases q
        exact ht rfl
theorem ownFrom_size {β : Type} (n₀ B : Nat) : OwnFrom B (fun (_ : β) W => n₀ ≤ W.heap.size) := fun _ _ _ _ hs hg _ => Nat.le_trans hs hg.size
/-- the times yielded so far, as cells -/
def cellsOf (pre : List (Int × Bool × Bool)) : List Value := (pre.map (·.1)).map (.int .i64 ·)
theorem cellsOf_snoc (pre : List (Int × Bool × Bool)) (x : Int × Bool × Bool) : cellsOf (pre ++ [x]) = cellsOf pre ++ [.int .i64 x.1] := by simp [cellsOf]
theorem cellsOf_len (pre : List (Int × Bool × Bool)) : (cellsOf pre).length = pre.length := by simp [cellsOf]
open Classical in
/-- the merged list, or none -/
noncomputable def mergeO (a b : List Int) : List Int := if Gp.errL [a, b] = 0 then Gp.ms a b else []

attribute [local go_sem] Oper.semAt_some
set_option maxRecDepth 100000 in
set_option maxHeartbeats 4000000 in
theorem merge_in (n : Nat) (hn : 5 ≤ n) (va vb : Value) (a b : List Int) (w : World) (ha : RowT w va a) (hb : RowT w vb b) (h : Gp.errL [a, b] = 0) :
    CallsIn Fence.wide n Try.prog 28 #[va, vb] w fun e w' => ∃ u, e = .returned (.tuple #[u, .int .i64 0]) ∧ OwnT w u (Gp.ms a b) w' := by
  have h1 : 1 ≤ n := by omega
  obtain ⟨i0, hi, hz0, hz1, hz2⟩ := info_parts infoT
  have TA := Lib.hid (Gp.errL_tl h a (by simp))
  have TB := Lib.hid (Gp.errL_tl h b (by simp))
  have HB := Lib.hid ((Below.refl _ w).alloc (Nat.le_refl _) (.cells #[va, vb] 22))
  have CK := Lib.hid (fun g W hc hd h1 h2 => check_two g va vb a b 0 h W hc hd h1 h2)
  have RA := Lib.hid ha
  have RB := Lib.hid hb
  have ML := Gp.mg_len a b
  have LA := ha.1
  have LB := hb.1
  obtain ⟨_, A1, cap1, rfl, _⟩ := ha
  obtain ⟨_, A2, cap2, rfl, _⟩ := hb
  clear h
  refine callsIn_of_wp_marks Try.func28 rfl trivial ?_ rfl
  simp only [Try.ntmps28, List.size_toArray, List.length_cons, List.length_nil, Nat.reduceAdd, Nat.reduceSub, Array.replicate_succ, Array.replicate_zero, List.push_toArray, List.append_toArray, List.nil_append, List.cons_append]
  gi_wp2_with (refine ⟨trivial, ?_⟩; gi_at_call 42; refine (callsIn_wide.2 (CK.out _ _ (by simp [go_sem]) (by simp [go_sem]) (RA.out.alloc _) (RB.out.alloc _))).mono ?_; rintro e V ⟨rfl, hb⟩)
  have B1 : Hid (Below w.heap.size w V) := Lib.hid (HB.out.trans (hb.mono (by simp)))
  have RA1 := Lib.hid (RA.out.below B1.out)
  have RB1 := Lib.hid (RB.out.below B1.out)
  clear hb
  gi_wp2_with (refine ⟨trivial, ?_⟩; gi_at_call 46; refine (callsIn_wide.2 (together_any _ _ _ _ _ _ _ _ rfl rfl _)).mono ?_; rintro e W0 ⟨rfl, q1, q2, q3, q4⟩)
  rw [World.size_alloc] at q1 q2 q3 q4
  have bM : Boxed W0 V.heap.size 22 (.slice none 0 0) := (q3.block _ (by omega)).trans (Boxed.new V 22 (.slice none 0 0))
  have BV : Below V.heap.size V W0 := ((Below.refl _ V).alloc (Nat.le_refl _) _).trans (q3.mono (by omega))
  have BW : Below w.heap.size w W0 := B1.out.trans (BV.mono B1.out.size)
  have sV := B1.out.size
  clear q3
  apply wpIn_rangeFunc_ownG rfl h1 (gf := 53) (lb := #[.pointer (some ⟨V.heap.size + 1, 0, none⟩), .pointer (some ⟨V.heap.size + 1 + 1, 0, none⟩)]) rfl trivial (enters_of Try.func53 (by kernel_rfl) rfl)
    (together_stops (fun b => b = V.heap.size) (n - 1) (by omega) _ _ _ _ a b TA.out TB.out V W0 BV (fun b e => by subst e; omega) RA1.out RB1.out (by omega) (by omega) q1 q2) Kt.trans (Kt.book (Nat.le_refl _)) (Below.refl _ _) (fun _ => rfl)
    (fun pre W => (∃ v, Boxed W V.heap.size 22 v ∧ W.ownsRow W0.heap.size 2 1 v pre.length (cellsOf pre) ∧ True) ∧ Below w.heap.size w W ∧ W0.heap.size ≤ W.heap.size)
    (fun _ _ _ => False)
    (OwnFrom.and (Own.from (holdsRow_own W0.heap.size V.heap.size 22 2 1 (fun pre : List (Int × Bool × Bool) => pre.length) cellsOf (fun _ _ => True)) _) (OwnFrom.and (ownFrom_below (Nat.le_refl _) (by omega)) (ownFrom_size _ _)))
    (fun _ _ _ _ _ hs _ _ => hs)
    ⟨⟨_, bM, World.ownsRow_nil _ _ _ _, trivial⟩, BW, Nat.le_refl _⟩
    _ ?assign ?body ?done ?stop
  case assign =>
    intro l x W K hK
    simp only [mgV]
    gi_wp2
    exact hK
  case body =>
    rintro l pre x W ⟨⟨v, hv, hrow, _⟩, hB, hS⟩ hlt
    have hc := hv.cell
    gi_wp2_with (gi_at_builtin; refine wpListIn_append_own _ rfl _ _ 22 rfl W0.heap.size 2 i0 (.int .i64 0) 1 8 Try.underlying22 hi hz0 hz1 hz2 rfl (by decide) _ _ _ rfl (hrow.alloc _) ⟨W.heap.size, 0, none⟩ 1 1 [.int .i64 x.1] rfl rfl (cell_one_new _ _ _) (by simp [Value.oneCell']) (by simp [maxLen]; omega) (by omega) (by simp; omega) ?_; intro v' w1 hown' hgrow _; obtain ⟨g', cap', rfl⟩ := ownsRow_succ hown'; have kt := Kt.append (v' := .slice (some ⟨g', 0, none⟩) (pre.length + 1) cap') (own := fun b => b = V.heap.size) (B := V.heap.size) rfl (Nat.le_refl _) hrow hgrow hS; obtain ⟨hv1, hv2, hr2, hk2, hb2⟩ := hv.appended (n₀ := w.heap.size) (by decide) (ownsRow_base hrow (by omega)) hB.size (by omega) (ownsRow_base hown' (by omega)) hgrow; have hr3 := hown'.kept (grownBy_setCell' w1 V.heap.size (.slice (some ⟨g', 0, none⟩) (pre.length + 1) cap')) (.inr (hv1.not_row (by decide) hown').symm); have hc1 := hv1.cell; have hf1 := hv1.frozen)
    exact ⟨hk2.from _, kt, ⟨_, hv2, by rw [cellsOf_snoc]; simpa using hr3, trivial⟩, hB.trans hb2, by have := kt.size; omega⟩
  case done =>
    rintro D ys W hD rfl ⟨⟨v, hv, hrow, _⟩, hB, hS⟩ hK
    have hc := hv.cell
    have hr2 := ownsRow_base hrow (base' := w.heap.size) (by omega)
    gi_wp2
    refine ⟨by simp, .inl ⟨_, _, rfl, run_takeDeferred hK, ?_⟩⟩
    have hr4 := ownsRow_putObj hr2 (.deferred none) hK rfl
    have hb4 := hB.trans (belowK_b (w := w) (Nat.le_refl _) W D _ (.deferred none) (by omega) hK rfl rfl)
    refine ⟨_, results_tmp2 rfl _ _ _, v, rfl, ?_, hb4⟩
    have e : (Gp.ms a b).length = (Gp.mg a b).length := by simp [Gp.ms]
    rw [e]
    exact hr4
  case stop =>
    rintro D c pre W _ _ h _
    exact h.elim
theorem merge_any (va vb : Value) (a b : List Int) (w : World) (ha : RowT w va a) (hb : RowT w vb b) :
    Calls Try.prog 28 #[va, vb] w fun e w' => ∃ u, e = .returned (.tuple #[u, .int .i64 (Gp.errL [a, b])]) ∧ OwnT w u (mergeO a b) w' := by
  by_cases z : Gp.errL [a, b] = 0
  · unfold mergeO
    rw [if_pos z, z]
    exact callsIn_wide.1 (merge_in 5 (by omega) va vb a b w ha hb z)
  · have MO : mergeO a b = [] := by unfold mergeO; rw [if_neg z]
    rw [MO]
    obtain ⟨r, hr⟩ : ∃ r, Gp.errL [a, b] = r := ⟨_, rfl⟩
    have CK := Lib.hid (fun g W hc hd h1 h2 => check_two g va vb a b r hr W hc hd h1 h2)
    rw [hr] at z ⊢
    have d1 : (r != 0) = true := by rw [bne_iff_ne]; exact z
    have HB := Lib.hid ((Below.refl _ w).alloc (Nat.le_refl _) (.cells #[va, vb] 22))
    have RA := Lib.hid ha
    have RB := Lib.hid hb
    obtain ⟨_, A1, cap1, rfl, _⟩ := ha
    obtain ⟨_, A2, cap2, rfl, _⟩ := hb
    clear z hr MO
    go_enter Try.func28, Try.ntmps28
    go_wp2_with fail
    refine (CK.out _ _ (by simp [go_sem]) (by simp [go_sem]) (RA.out.alloc _) (RB.out.alloc _)).mono ?_
    rintro e V ⟨rfl, hb⟩
    have B1 : Hid (Below w.heap.size w V) := Lib.hid (HB.out.trans (hb.mono (by simp)))
    clear hb
    go_wp2_with fail
    go_ret2
    exact ⟨_, rfl, .nil B1.out⟩
end Go.Proofs.Ytihbpbdcpnpiaaa
