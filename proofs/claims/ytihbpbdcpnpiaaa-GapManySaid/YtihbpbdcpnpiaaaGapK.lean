/- Contract of Only of package gap. -/
import Derived.Test.YtihbpbdcpnpiaaaGapJ
import Derived.Maps.OwnIn
import Derived.RangeFuncNested
namespace Go.Proofs.Ytihbpbdcpnpiaaa
open Go.ChangeShapes Go.RowKit Go.Shelf

open Classical in
/-- what each list has alone, or nothing -/
noncomputable def onlyAO (a b : List Int) : List Int := if Gp.errL [a, b] = 0 then Gp.minus a b else []
open Classical in
noncomputable def onlyBO (a b : List Int) : List Int := if Gp.errL [a, b] = 0 then Gp.minus b a else []
/-- the times of the first list alone, of the second alone, among those yielded so far -/
def preA (pre : List (Int × Bool × Bool)) : List Int := (pre.filter fun p => p.2.1 && !p.2.2).map (·.1)
def preB (pre : List (Int × Bool × Bool)) : List Int := (pre.filter fun p => !p.2.1 && p.2.2).map (·.1)
theorem preA_snoc (pre : List (Int × Bool × Bool)) (t : Int) (p q : Bool) : preA (pre ++ [(t, p, q)]) = preA pre ++ if p && !q then [t] else [] := by
  unfold preA
  rw [List.filter_append, List.map_append]
  congr 1
  cases p <;> cases q <;> rfl
theorem preB_snoc (pre : List (Int × Bool × Bool)) (t : Int) (p q : Bool) : preB (pre ++ [(t, p, q)]) = preB pre ++ if !p && q then [t] else [] := by
  unfold preB
  rw [List.filter_append, List.map_append]
  congr 1
  cases p <;> cases q <;> rfl
theorem preA_len (pre : List (Int × Bool × Bool)) : (preA pre).length ≤ pre.length := by unfold preA; rw [List.length_map]; exact List.length_filter_le _ _
theorem preB_len (pre : List (Int × Bool × Bool)) : (preB pre).length ≤ pre.length := by unfold preB; rw [List.length_map]; exact List.length_filter_le _ _

/-- the two slices that grow, each in its own box -/
structure OnS (w W0 : World) (m : Nat) (u v : Value) (lu lv : List Int) (W : World) : Prop where
  bu : Boxed W m 22 u
  bv : Boxed W (m + 1) 22 v
  ru : W.ownsRow W0.heap.size 2 1 u lu.length (lu.map (.int .i64 ·))
  rv : W.ownsRow W0.heap.size 2 1 v lv.length (lv.map (.int .i64 ·))
  apart : ∀ g, u.ownBlock = some g → v.ownBlock ≠ some g
  be : Below w.heap.size w W
  sz : W0.heap.size ≤ W.heap.size
theorem row_free {W : World} {base : Nat} {e : TypeId} {size k : Nat} {v : Value} {xs : List Value} (h : W.ownsRow base e size v k xs) {row : Option Nat} (hr : ∀ r, row = some r → ∃ o : Obj, W.heap[r]? = some o ∧ o.isCells = false) : v.ownBlock = none ∨ v.ownBlock ≠ row := by
  rcases h.2 with ⟨rfl, _⟩ | ⟨g, cap, cur, rfl, _, hgb, _⟩
  · exact .inl rfl
  · refine .inr fun e' => ?_
    obtain ⟨o, ho, hc⟩ := hr g (by simpa [Value.ownBlock] using e'.symm)
    rw [hgb] at ho; cases ho; cases hc
theorem OnS.grow {w W0 : World} {m : Nat} {u v : Value} {lu lv : List Int} {base : Nat} {A B : World} {row : Option Nat} (h : OnS w W0 m u v lu lv A) (hb : w.heap.size ≤ base) (hg : A.grownBy B row) (hr : ∀ r, row = some r → base ≤ r ∧ ∃ o : Obj, A.heap[r]? = some o ∧ o.isCells = false) : OnS w W0 m u v lu lv B := by
  have hr' : ∀ r, row = some r → ∃ o : Obj, A.heap[r]? = some o ∧ o.isCells = false := fun r e => (hr r e).2
  have bx : ∀ {b t v}, Boxed A b t v → Boxed B b t v := fun {b t v} q => boxed_own b t (fun (_ : Unit) => v) () A B row q hg hr'
  exact ⟨bx h.bu, bx h.bv, h.ru.kept hg (row_free h.ru hr'), h.rv.kept hg (row_free h.rv hr'), h.apart, ownFrom_below (β := Unit) (Nat.le_refl _) hb () A B row h.be hg hr, Nat.le_trans h.sz hg.size⟩
theorem OnS.alloc {w W0 : World} {m : Nat} {u v : Value} {lu lv : List Int} {A : World} (h : OnS w W0 m u v lu lv A) (o : Obj) : OnS w W0 m u v lu lv (A.alloc o) :=
  h.grow (Nat.le_refl _) (World.grownBy_alloc A o none) (fun _ e => by cases e)
theorem OnS.stepU {w W0 W w1 : World} {m : Nat} {u v v' : Value} {lu lv : List Int} {o : Obj} {x : Int} (h : OnS w W0 m u v lu lv W) (hm : m + 1 < W0.heap.size) (hw : w.heap.size ≤ m)
    (hown : w1.ownsRow W0.heap.size 2 1 v' (lu.length + 1) (lu.map (.int .i64 ·) ++ [.int .i64 x])) (hg : (W.alloc o).grownBy w1 u.ownBlock)
    (hat : v'.ownBlock = u.ownBlock ∨ v'.ownBlock = some (W.heap.size + 1)) :
    OnS w W0 m v' v (lu ++ [x]) lv (w1.setCell ⟨m, 0, none⟩ v') ∧ KeepsOthers W (w1.setCell ⟨m, 0, none⟩ v') ∧ Kt (fun b => b = m ∨ b = m + 1) W0.heap.size W (w1.setCell ⟨m, 0, none⟩ v') ∧ w1.cell? ⟨m, 0, none⟩ = some u ∧ w1.frozen? ⟨m, 0, none⟩ = false := by
  have h1 : Boxed w1 m 22 u := (h.bu.alloc o).kept hg (h.bu.not_row (by decide) h.ru)
  have h2 : Boxed w1 (m + 1) 22 v := (h.bv.alloc o).kept hg (h.bv.not_row (by decide) h.ru)
  have r2 : w1.ownsRow W0.heap.size 2 1 v lv.length (lv.map (.int .i64 ·)) := (h.rv.alloc o).kept hg (by
      by_cases z : v.ownBlock = none
      · exact .inl z
      · refine .inr fun e => ?_
        obtain ⟨g, hgd⟩ := Option.ne_none_iff_exists'.1 z
        exact h.apart g (by rw [← e, hgd]) hgd)
  have hs := h.sz
  have q := h.bu.appended (n₀ := w.heap.size) (by decide) (ownsRow_base h.ru (by omega)) h.be.size (by omega) (ownsRow_base hown (by omega)) hg
  have kt := Kt.append (v' := v') (own := fun b => b = m ∨ b = m + 1) (B := m) (by simp) (Nat.le_refl _) h.ru hg hs
  refine ⟨?_, q.2.2.2.1, kt, h1.cell, h1.frozen⟩
  have ap : ∀ g, v'.ownBlock = some g → v.ownBlock ≠ some g := by
    intro g e1 e2
    rcases hat with e | e
    · exact h.apart g (by rw [← e, e1]) e2
    · have := (h.rv.lt g e2).2
      rw [e] at e1
      simp at e1
      omega
  have b1 := h1.set v'
  have b2 := h2.other (by omega : (m + 1) ≠ m) v'
  have r1 : (w1.setCell ⟨m, 0, none⟩ v').ownsRow W0.heap.size 2 1 v' (lu ++ [x]).length ((lu ++ [x]).map (.int .i64 ·)) := by
    rw [List.map_append]
    simpa using hown.kept (grownBy_setCell' w1 m v') (.inr (h1.not_row (by decide) hown).symm)
  have r3 := r2.kept (grownBy_setCell' w1 m v') (.inr (h1.not_row (by decide) r2).symm)
  exact ⟨b1, b2, r1, r3, ap, h.be.trans q.2.2.2.2, by have := kt.size; omega⟩
theorem OnS.stepV {w W0 W w1 : World} {m : Nat} {u v v' : Value} {lu lv : List Int} {o : Obj} {x : Int} (h : OnS w W0 m u v lu lv W) (hm : m + 1 < W0.heap.size) (hw : w.heap.size ≤ m)
    (hown : w1.ownsRow W0.heap.size 2 1 v' (lv.length + 1) (lv.map (.int .i64 ·) ++ [.int .i64 x])) (hg : (W.alloc o).grownBy w1 v.ownBlock)
    (hat : v'.ownBlock = v.ownBlock ∨ v'.ownBlock = some (W.heap.size + 1)) :
    OnS w W0 m u v' lu (lv ++ [x]) (w1.setCell ⟨(m + 1), 0, none⟩ v') ∧ KeepsOthers W (w1.setCell ⟨(m + 1), 0, none⟩ v') ∧ Kt (fun b => b = m ∨ b = m + 1) W0.heap.size W (w1.setCell ⟨(m + 1), 0, none⟩ v') ∧ w1.cell? ⟨(m + 1), 0, none⟩ = some v ∧ w1.frozen? ⟨(m + 1), 0, none⟩ = false := by
  have h1 : Boxed w1 (m + 1) 22 v := (h.bv.alloc o).kept hg (h.bv.not_row (by decide) h.rv)
  have h2 : Boxed w1 m 22 u := (h.bu.alloc o).kept hg (h.bu.not_row (by decide) h.rv)
  have r2 : w1.ownsRow W0.heap.size 2 1 u lu.length (lu.map (.int .i64 ·)) := (h.ru.alloc o).kept hg (by
      by_cases z : u.ownBlock = none
      · exact .inl z
      · refine .inr fun e => ?_
        obtain ⟨g, hgd⟩ := Option.ne_none_iff_exists'.1 z
        exact h.apart g hgd (by rw [← e, hgd]))
  have hs := h.sz
  have q := h.bv.appended (n₀ := w.heap.size) (by decide) (ownsRow_base h.rv (by omega)) h.be.size (by omega) (ownsRow_base hown (by omega)) hg
  have kt := Kt.append (v' := v') (own := fun b => b = m ∨ b = m + 1) (B := (m + 1)) (by simp) (Nat.le_refl _) h.rv hg hs
  refine ⟨?_, q.2.2.2.1, kt, h1.cell, h1.frozen⟩
  have ap : ∀ g, u.ownBlock = some g → v'.ownBlock ≠ some g := by
    intro g e1 e2
    rcases hat with e | e
    · exact h.apart g e1 (by rw [← e, e2])
    · have := (h.ru.lt g e1).2
      rw [e] at e2
      simp at e2
      omega
  have b1 := h1.set v'
  have b2 := h2.other (by omega : m ≠ (m + 1)) v'
  have r1 : (w1.setCell ⟨(m + 1), 0, none⟩ v').ownsRow W0.heap.size 2 1 v' (lv ++ [x]).length ((lv ++ [x]).map (.int .i64 ·)) := by
    rw [List.map_append]
    simpa using hown.kept (grownBy_setCell' w1 (m + 1) v') (.inr (h1.not_row (by decide) hown).symm)
  have r3 := r2.kept (grownBy_setCell' w1 (m + 1) v') (.inr (h1.not_row (by decide) r2).symm)
  exact ⟨b2, b1, r3, r1, ap, h.be.trans q.2.2.2.2, by have := kt.size; omega⟩

attribute [local go_sem] Oper.semAt_some
set_option maxRecDepth 100000 in
set_option maxHeartbeats 4000000 in
theorem only_in (n : Nat) (hn : 5 ≤ n) (va vb : Value) (a b : List Int) (w : World) (ha : RowT w va a) (hb : RowT w vb b) (h : Gp.errL [a, b] = 0) :
    CallsIn Fence.wide n Try.prog 30 #[va, vb] w fun e w' => ∃ u v, e = .returned (.tuple #[u, v, .int .i64 0]) ∧ OwnT w u (Gp.minus a b) w' ∧ OwnT w v (Gp.minus b a) w' := by
  have h1 : 1 ≤ n := by omega
  obtain ⟨i0, hi, hz0, hz1, hz2⟩ := info_parts infoT
  have TA := Lib.hid (Gp.errL_tl h a (by simp))
  have TB := Lib.hid (Gp.errL_tl h b (by simp))
  have HB := Lib.hid ((Below.refl _ w).alloc (Nat.le_refl _) (.cells #[va, vb] 22))
  have CK := Lib.hid (fun g W hc hd h1 h2 => check_two g va vb a b 0 h W hc hd h1 h2)
  have RA := Lib.hid ha
  have RB := Lib.hid hb
  have ML := Gp.mg_len a b
  have LA := ha.1
  have LB := hb.1
  obtain ⟨_, A1, cap1, rfl, _⟩ := ha
  obtain ⟨_, A2, cap2, rfl, _⟩ := hb
  clear h
  refine callsIn_of_wp_marks Try.func30 rfl trivial ?_ rfl
  simp only [Try.ntmps30, List.size_toArray, List.length_cons, List.length_nil, Nat.reduceAdd, Nat.reduceSub, Array.replicate_succ, Array.replicate_zero, List.push_toArray, List.append_toArray, List.nil_append, List.cons_append]
  gi_wp2_with (refine ⟨trivial, ?_⟩; gi_at_call 42; refine (callsIn_wide.2 (CK.out _ _ (by simp [go_sem]) (by simp [go_sem]) (RA.out.alloc _) (RB.out.alloc _))).mono ?_; rintro e V ⟨rfl, hb⟩)
  have B1 : Hid (Below w.heap.size w V) := Lib.hid (HB.out.trans (hb.mono (by simp)))
  have RA1 := Lib.hid (RA.out.below B1.out)
  have RB1 := Lib.hid (RB.out.below B1.out)
  clear hb
  gi_wp2_with (refine ⟨trivial, ?_⟩; gi_at_call 46; refine (callsIn_wide.2 (together_any _ _ _ _ _ _ _ _ rfl rfl _)).mono ?_; rintro e W0 ⟨rfl, q1, q2, q3, q4⟩)
  rw [World.size_alloc, World.size_alloc] at q1 q2 q3 q4
  have bM : Boxed W0 V.heap.size 22 (.slice none 0 0) := (q3.block _ (by omega)).trans ((Boxed.new V 22 (.slice none 0 0)).alloc _)
  have bN : Boxed W0 (V.heap.size + 1) 22 (.slice none 0 0) := (q3.block _ (by omega)).trans (by have := Boxed.new (V.alloc (.cells #[.slice none 0 0] 22)) 22 (.slice none 0 0); rw [World.size_alloc] at this; exact this)
  have BV : Below V.heap.size V W0 := (((Below.refl _ V).alloc (Nat.le_refl _) _).alloc (by simp) _).trans (q3.mono (by omega))
  have BW : Below w.heap.size w W0 := B1.out.trans (BV.mono B1.out.size)
  have sV := B1.out.size
  clear q3
  apply wpIn_rangeFunc_ownH rfl h1 (gf := 53) (lb := #[.pointer (some ⟨V.heap.size + 1 + 1, 0, none⟩), .pointer (some ⟨V.heap.size + 1 + 1 + 1, 0, none⟩)]) rfl trivial (enters_of Try.func53 (by kernel_rfl) rfl)
    (together_stops (fun b => b = V.heap.size ∨ b = V.heap.size + 1) (n - 1) (by omega) _ _ _ _ a b TA.out TB.out V W0 BV (fun b e => by omega) RA1.out RB1.out (by omega) (by omega) q1 q2) Kt.trans (Kt.book (Nat.le_refl _)) (Below.refl _ _) (fun _ => rfl)
    (fun pre W => ∃ u v, OnS w W0 V.heap.size u v (preA pre) (preB pre) W)
    (fun _ _ _ => False)
    (fun pre A B row ⟨u, v, h⟩ hg hr => ⟨u, v, h.grow (by omega) hg hr⟩)
    (fun _ _ _ _ _ hs _ _ => hs)
    ⟨_, _, bM, bN, World.ownsRow_nil _ _ _ _, World.ownsRow_nil _ _ _ _, fun _ e => by simp [Value.ownBlock] at e, BW, Nat.le_refl _⟩
    (fun x a' W => ∃ By, V.heap.size + 1 < By ∧ W.heap[By]? = some (.cells #[.bool x.2.1, .bool x.2.2] 63) ∧ a' = { tmps := #[.slice A1 a.length cap1, .slice A2 b.length cap2, undef, undef, .slice none 0 0, .slice none 0 0, .int .i64 0, .int .i64 0, .pointer (some ⟨V.heap.size, 0, none⟩), .pointer (some ⟨V.heap.size + 1, 0, none⟩), .int .i64 x.1, .pointer (some ⟨By, 0, none⟩), .slice A1 a.length cap1, .slice A2 b.length cap2, .slice (some ⟨w.heap.size, 0, none⟩) 2 2, .int .i64 0, .int .i64 0, .bool false, undef, .slice A1 a.length cap1, .slice A2 b.length cap2, .func (.func 53) #[] #[.pointer (some ⟨V.heap.size + 1 + 1, 0, none⟩), .pointer (some ⟨V.heap.size + 1 + 1 + 1, 0, none⟩)], .int .i64 x.1, .agg #[.bool x.2.1, .bool x.2.2], undef, undef, undef, undef, undef, undef, undef, undef, undef, undef, undef, undef, undef, undef, undef, undef, undef], defers := [] })
    (fun x a' _ X Y row hs hg hr => by
      obtain ⟨By, e1, e2, e3⟩ := hs
      refine ⟨By, e1, (hg.block By (Array.getElem?_eq_some_iff.1 e2).1 fun e => ?_).trans e2, e3⟩
      obtain ⟨_, o, ho, hc⟩ := hr By e.symm
      rw [e2] at ho; cases ho; cases hc)
    ?assign ?body ?done ?stop
  case assign =>
    rintro l pre x W K ⟨u, v, h⟩ hK
    simp only [mgV]
    gi_wp2
    have hs := h.sz
    refine hK _ _ ((KeepsOthers.alloc _ _).from _) ((Kt.refl _ _ W).alloc hs _) ⟨u, v, h.alloc _⟩ ⟨W.heap.size, by omega, World.alloc_heap_new W _, rfl⟩
  case body =>
    rintro l pre ⟨t, p, q⟩ a' W hl hr ⟨u, v, h⟩ ⟨By, hBy, hblk, rfl⟩ hlt
    have la := preA_len pre
    have lb := preB_len pre
    have hs := h.sz
    have cu := h.bu.cell
    have cv := h.bv.cell
    cases p with
    | false =>
      cases q with
      | false =>
        have c0 : W.cell? ⟨By, 0, none⟩ = some (.bool false) := by simp [World.cell?, hblk]
        have c1 : W.cell? ⟨By, 1, none⟩ = some (.bool false) := by simp [World.cell?, hblk]
        gi_wp2
        exact ⟨KeepsFrom.refl _ _, Kt.refl _ _ _, u, v, by rw [preA_snoc, preB_snoc]; simpa using h⟩
      | true =>
        have c0 : W.cell? ⟨By, 0, none⟩ = some (.bool false) := by simp [World.cell?, hblk]
        have c1 : W.cell? ⟨By, 1, none⟩ = some (.bool true) := by simp [World.cell?, hblk]
        gi_wp2_with (gi_at_builtin; refine wpListIn_append_own_at _ rfl _ _ 22 rfl W0.heap.size 2 i0 (.int .i64 0) 1 8 Try.underlying22 hi hz0 hz1 hz2 rfl (by decide) _ _ _ rfl (h.rv.alloc _) ⟨W.heap.size, 0, none⟩ 1 1 [.int .i64 t] rfl rfl (cell_one_new _ _ _) (by simp [Value.oneCell']) (by simp [maxLen]; omega) (by omega) (by simp; omega) ?_; intro v' w1 hown' hgrow _ hat; obtain ⟨g', cap', rfl⟩ := ownsRow_succ hown'; have hq := h.stepV (by omega) (by omega) hown' hgrow (by rw [World.size_alloc] at hat; exact hat); obtain ⟨k1, k2, k3, k4, k5⟩ := hq)
        exact ⟨k2.from _, (by rw [q4] at k3; exact k3), _, _, by rw [preA_snoc, preB_snoc]; simpa using k1⟩
    | true =>
      cases q with
      | false =>
        have c0 : W.cell? ⟨By, 0, none⟩ = some (.bool true) := by simp [World.cell?, hblk]
        have c1 : W.cell? ⟨By, 1, none⟩ = some (.bool false) := by simp [World.cell?, hblk]
        gi_wp2_with (gi_at_builtin; refine wpListIn_append_own_at _ rfl _ _ 22 rfl W0.heap.size 2 i0 (.int .i64 0) 1 8 Try.underlying22 hi hz0 hz1 hz2 rfl (by decide) _ _ _ rfl (h.ru.alloc _) ⟨W.heap.size, 0, none⟩ 1 1 [.int .i64 t] rfl rfl (cell_one_new _ _ _) (by simp [Value.oneCell']) (by simp [maxLen]; omega) (by omega) (by simp; omega) ?_; intro v' w1 hown' hgrow _ hat; obtain ⟨g', cap', rfl⟩ := ownsRow_succ hown'; have hq := h.stepU (by omega) (by omega) hown' hgrow (by rw [World.size_alloc] at hat; exact hat); obtain ⟨k1, k2, k3, k4, k5⟩ := hq)
        exact ⟨k2.from _, (by rw [q4] at k3; exact k3), _, _, by rw [preA_snoc, preB_snoc]; simpa using k1⟩
      | true =>
        have c0 : W.cell? ⟨By, 0, none⟩ = some (.bool true) := by simp [World.cell?, hblk]
        have c1 : W.cell? ⟨By, 1, none⟩ = some (.bool true) := by simp [World.cell?, hblk]
        gi_wp2
        exact ⟨KeepsFrom.refl _ _, Kt.refl _ _ _, u, v, by rw [preA_snoc, preB_snoc]; simpa using h⟩
  case done =>
    rintro D ys W hD rfl ⟨u, v, h⟩ hK
    have cu := h.bu.cell
    have cv := h.bv.cell
    gi_wp2
    gi_quiet (fail)
    gi_wp2
    have hK' : (W.drewN nq).heap[D]? = some (.deferred (some [])) := hK
    refine ⟨by simp, .inl ⟨_, _, rfl, run_takeDeferred hK', ?_⟩⟩
    have ru := ownsRow_putObj (ownsRow_base h.ru (base' := w.heap.size) (by omega)) (.deferred none) hK rfl
    have rv := ownsRow_putObj (ownsRow_base h.rv (base' := w.heap.size) (by omega)) (.deferred none) hK rfl
    have hb4 := below_drewN (h.be.trans (belowK_b (w := w) (Nat.le_refl _) W D _ (.deferred none) (by omega) hK rfl rfl)) nq
    have ea : preA (Gp.mg a b) = Gp.minus a b := Gp.onlyA_is TA.out.inc TB.out.inc
    have eb : preB (Gp.mg a b) = Gp.minus b a := Gp.onlyB_is TA.out.inc TB.out.inc
    rw [ea] at ru
    rw [eb] at rv
    exact ⟨_, results_tmp3 rfl _ _ _, u, v, rfl, ⟨ru, hb4⟩, rv, hb4⟩
  case stop =>
    rintro D c pre W _ _ h _
    exact h.elim
theorem only_any (va vb : Value) (a b : List Int) (w : World) (ha : RowT w va a) (hb : RowT w vb b) :
    Calls Try.prog 30 #[va, vb] w fun e w' => ∃ u v, e = .returned (.tuple #[u, v, .int .i64 (Gp.errL [a, b])]) ∧ OwnT w u (onlyAO a b) w' ∧ OwnT w v (onlyBO a b) w' := by
  by_cases z : Gp.errL [a, b] = 0
  · unfold onlyAO onlyBO
    rw [if_pos z, if_pos z, z]
    exact callsIn_wide.1 (only_in 5 (by omega) va vb a b w ha hb z)
  · have MO : onlyAO a b = [] := by unfold onlyAO; rw [if_neg z]
    have MP : onlyBO a b = [] := by unfold onlyBO; rw [if_neg z]
    rw [MO, MP]
    obtain ⟨r, hr⟩ : ∃ r, Gp.errL [a, b] = r := ⟨_, rfl⟩
    have CK := Lib.hid (fun g W hc hd h1 h2 => check_two g va vb a b r hr W hc hd h1 h2)
    rw [hr] at z ⊢
    have d1 : (r != 0) = true := by rw [bne_iff_ne]; exact z
    have HB := Lib.hid ((Below.refl _ w).alloc (Nat.le_refl _) (.cells #[va, vb] 22))
    have RA := Lib.hid ha
    have RB := Lib.hid hb
    obtain ⟨_, A1, cap1, rfl, _⟩ := ha
    obtain ⟨_, A2, cap2, rfl, _⟩ := hb
    clear z hr MO MP
    go_enter Try.func30, Try.ntmps30
    go_wp2_with fail
    refine (CK.out _ _ (by simp [go_sem]) (by simp [go_sem]) (RA.out.alloc _) (RB.out.alloc _)).mono ?_
    rintro e V ⟨rfl, hb⟩
    have B1 : Hid (Below w.heap.size w V) := Lib.hid (HB.out.trans (hb.mono (by simp)))
    clear hb
    go_wp2_with fail
    go_ret3
    exact ⟨_, _, rfl, .nil B1.out, .nil B1.out⟩
end Go.Proofs.Ytihbpbdcpnpiaaa
