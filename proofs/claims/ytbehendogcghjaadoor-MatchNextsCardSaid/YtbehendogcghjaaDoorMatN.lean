/- Contracts of dates and sinceMidnight of package match. -/
import Derived.Test.YtbehendogcghjaaDoorMatNp
namespace Go.Proofs.YtbehendogcghjaaDoor
open Go.ChangeShapes Go.RowKit Go.Shelf

/-- the sum over a list of days -/
def sumA (last : Int) : List Int → Int
  | [] => 0
  | q :: r => adds last q + sumA last r
theorem sumA_snoc (last q : Int) : ∀ l : List Int, sumA last (l ++ [q]) = sumA last l + adds last q
  | [] => by simp [sumA]
  | a :: l => by rw [List.cons_append, sumA, sumA_snoc last q l, sumA]; omega
/-- the days ahead of one -/
def ahead_ (e : Int) (l : List Int) : List Int := l.filter fun q => decide (q < e)
theorem ahead_snoc_yes {e q : Int} (h : q < e) (l : List Int) : ahead_ e (l ++ [q]) = ahead_ e l ++ [q] := by unfold ahead_; rw [List.filter_append]; simp [h]
theorem ahead_snoc_no {e q : Int} (h : ¬ q < e) (l : List Int) : ahead_ e (l ++ [q]) = ahead_ e l := by unfold ahead_; rw [List.filter_append]; simp [h]
theorem ahead_all {e : Int} {l : List Int} (h : ∀ q ∈ l, q < e) : ahead_ e l = l := by unfold ahead_; rw [List.filter_eq_self]; simpa using h
theorem ahead_cut {e q : Int} {p r : List Int} (hp : ∀ a ∈ p, a < e) (hq : ¬ q < e) (hs : (p ++ q :: r).Pairwise (fun a b : Int => a < b)) : ahead_ e (p ++ q :: r) = p := by
  rw [List.pairwise_append, List.pairwise_cons] at hs
  have h1 := ahead_all hp
  have h2 : ahead_ e (q :: r) = [] := by
    unfold ahead_
    rw [List.filter_eq_nil_iff]
    intro a ha
    rcases List.mem_cons.1 ha with rfl | ha
    · simpa using hq
    · have := hs.2.1.1 a ha
      simp; omega
  have h3 : ahead_ e (p ++ q :: r) = ahead_ e p ++ ahead_ e (q :: r) := by unfold ahead_; rw [List.filter_append]
  rw [h3, h1, h2, List.append_nil]
theorem sum_daysTo (x : Exp.Ex) (a last : Int) : ∀ k : Nat, sumA last (ahead_ (a + 146097) (Mat.Dir.up.daysTo x a k)) = sumTo x a last (min k 146097)
  | 0 => rfl
  | k + 1 => by
    have ih := sum_daysTo x a last k
    have e1 : a + Mat.Dir.up.val * (k : Int) = a + (k : Nat) := by simp [Mat.Dir.val]
    by_cases hk : k < 146097
    · rw [Nat.min_eq_left (by omega)] at ih
      rw [Nat.min_eq_left (by omega), sumTo]
      by_cases c : x.On (a + (k : Nat))
      · rw [daysTo_yes (by rw [e1]; exact onB_iff.2 c), e1, ahead_snoc_yes (by omega), sumA_snoc, ih, if_pos c]
      · rw [daysTo_no (by rw [e1]; exact onB_no.2 c), ih, if_neg c, Int.add_zero]
    · rw [Nat.min_eq_right (by omega)] at ih
      rw [Nat.min_eq_right (by omega), ← ih]
      by_cases c : x.On (a + (k : Nat))
      · rw [daysTo_yes (by rw [e1]; exact onB_iff.2 c), e1, ahead_snoc_no (by omega)]
      · rw [daysTo_no (by rw [e1]; exact onB_no.2 c)]
/-- the days that came, as numbers -/
def dys (l : List Dy) : List Int := l.map fun q => q.val
theorem dys_snoc (l : List Dy) (q : Dy) : dys (l ++ [q]) = dys l ++ [q.val] := by simp [dys]
theorem dys_mem {l : List Dy} {n : Int} (h : n ∈ dys l) : ∃ a ∈ l, a.val = n := List.mem_map.1 h
/-- what dates returns -/
noncomputable def datesV (x : Exp.Ex) (f t : Int) : Int := sumA (t.tdiv 86400) (ahead_ (f / 86400 + 146097) (Mat.Dir.up.daysL x f t))
theorem datesV_is {x : Exp.Ex} {f t : Int} (f0 : 0 ≤ f) (h : f ≤ t) (t1 : t ≤ 253402300799) : datesV x f t = (cntN x.On (f / 86400) (t / 86400 - f / 86400 + 1).toNat : Int) := by
  have hp : Mat.Dir.up.past f t = false := by unfold Mat.Dir.past; rw [decide_eq_false_iff_not]; simp only [Mat.Dir.val]; omega
  unfold datesV Mat.Dir.daysL
  have ec : Mat.Dir.up.cnt f t = (t / 86400 - f / 86400 + 1).toNat := by unfold Mat.Dir.cnt; simp only [Mat.Dir.val]; omega
  rw [if_neg (by rw [hp]; simp), ec, sum_daysTo, Int.tdiv_eq_ediv_of_nonneg (by omega)]
  obtain ⟨k, hk⟩ : ∃ k, (t / 86400 - f / 86400 + 1).toNat = k := ⟨_, rfl⟩
  have el : t / 86400 = f / 86400 + (k : Nat) - 1 := by omega
  rw [hk, el]
  exact sum_cycle 20 (f / 86400) k (by omega) (by omega) (by omega)
theorem datesV_past {x : Exp.Ex} {f t : Int} (h : t < f) : datesV x f t = 0 := by
  have hp : Mat.Dir.up.past f t = true := by unfold Mat.Dir.past; rw [decide_eq_true_iff]; simp only [Mat.Dir.val]; omega
  unfold datesV Mat.Dir.daysL
  rw [if_pos hp]
  rfl
theorem adds_bd {last q : Int} (h0 : 0 ≤ last) (h1 : last ≤ 2932897) (q0 : 0 ≤ q) (q1 : q ≤ 2932897) : -22 ≤ adds last q ∧ adds last q ≤ 22 := by
  unfold adds
  by_cases c : 0 ≤ last - q
  · rw [Int.tdiv_eq_ediv_of_nonneg c]; omega
  · have e : (last - q).tdiv 146097 = -((q - last) / 146097) := by
      rw [show last - q = -(q - last) by omega, Int.neg_tdiv, Int.tdiv_eq_ediv_of_nonneg (by omega)]
    rw [e]; omega

/-- all of these days lie ahead of one -/
def AllB (e : Int) (l : List Dy) : Prop := ∀ q ∈ l, q.val < e
theorem AllB.snoc {e : Int} {l : List Dy} {q : Dy} (h : AllB e l) (hq : q.val < e) : AllB e (l ++ [q]) := by
  intro a ha
  rcases List.mem_append.1 ha with g | g
  · exact h a g
  · obtain rfl : a = q := by simpa using g
    exact hq
/-- the loop has been left at the first day that does not -/
def Cut (e T : Int) (w : World) (c : Code) (pre : List Dy) (W : World) : Prop := ∃ (p : List Dy) (q : Dy), (c = .exit 0 ∧ pre = p ++ [q] ∧ AllB e p ∧ ¬ q.val < e) ∧ Boxed W (w.heap.size + 1) 2 (.int .i64 (sumA T (dys p))) ∧ Below w.heap.size w W
section
attribute [local go_sem] Oper.semAt_some
set_option maxRecDepth 100000 in
set_option maxHeartbeats 4000000 in
theorem dates_in (n : Nat) (hn : 3 ≤ n) (x : Exp.Ex) (hok : x.Ok) (f t : Int) (f0 : 0 ≤ f) (f1 : f ≤ 253402300799) (t0 : -1 ≤ t) (t1 : t ≤ 253402300799) (w : World) (L : LayM w) :
    CallsIn Fence.wide n Tryd.prog 49 #[.agg #[.int .u64 x.a0, .int .u64 x.a1, .int .u64 x.a2, .int .u64 x.a3, .int .u64 x.a4, .int .u64 x.a5, .bool x.b3, .bool x.b5], .int .i64 f, .int .i64 t] w fun e W' => e = .returned (.int .i64 (datesV x f t)) ∧ Below w.heap.size w W' := by
  have h1 : 1 ≤ n := by omega
  have OK := Lib.hid hok
  have LL := Lib.hid L
  have BD := Lib.hid (And.intro (And.intro f0 f1) (And.intro t0 t1))
  obtain ⟨F, hF⟩ : ∃ F, f / 86400 = F := ⟨_, rfl⟩
  obtain ⟨T, hT⟩ : ∃ T, t.tdiv 86400 = T := ⟨_, rfl⟩
  have TB : 0 ≤ T ∧ T ≤ 2932896 := by
    rw [← hT]
    by_cases c : 0 ≤ t
    · rw [Int.tdiv_eq_ediv_of_nonneg c]; omega
    · obtain rfl : t = -1 := by omega
      decide
  have qf : f.tdiv 86400 = F := by rw [← hF]; exact Int.tdiv_eq_ediv_of_nonneg f0
  have wF : IntKind.i64.wrap F = F := by rw [IntKind.wrap_i64]; omega
  have wT : IntKind.i64.wrap T = T := by rw [IntKind.wrap_i64]; omega
  have FB := Lib.hid (show 0 ≤ F ∧ F ≤ 2932896 by omega)
  have TB := Lib.hid TB
  have DV : Hid (datesV x f t = sumA T (ahead_ (F + 146097) (Mat.Dir.up.daysL x f t))) := Lib.hid (by unfold datesV; rw [hF, hT])
  clear hok L f0 f1 t0 t1 hF
  refine callsIn_of_wp_marks Tryd.func49 rfl trivial ?_ rfl
  simp only [Tryd.ntmps49, List.size_toArray, List.length_cons, List.length_nil, Nat.reduceAdd, Nat.reduceSub, Array.replicate_succ, Array.replicate_zero, List.push_toArray, List.append_toArray, List.nil_append, List.cons_append]
  gi_wp2_with (refine ⟨trivial, ?_⟩; gi_at_call 53; refine (callsIn_wide.2 (days_any .up x f t _)).mono ?_; rintro e w' ⟨rfl, rfl⟩)
  obtain ⟨os, hos⟩ : ∃ os : List Obj, os = [(.cells #[.int .u64 x.a0, .int .u64 x.a1, .int .u64 x.a2, .int .u64 x.a3, .int .u64 x.a4, .int .u64 x.a5, .bool x.b3, .bool x.b5] 24), .cells #[.int .i64 0] 2, .cells #[.int .i64 F] 2, .cells #[.int .i64 T] 2, .cells #[.int .i64 1] 55, (.cells #[.int .u64 x.a0, .int .u64 x.a1, .int .u64 x.a2, .int .u64 x.a3, .int .u64 x.a4, .int .u64 x.a5, .bool x.b3, .bool x.b5] 24), .cells #[.int .i64 f] 2, .cells #[.int .i64 t] 2] := ⟨_, rfl⟩
  obtain ⟨W0, hW0⟩ : ∃ W0, W0 = allocs w os := ⟨_, rfl⟩
  have hB0 : Below w.heap.size w W0 := by rw [hW0]; exact allocs_below _ _
  have hsz : W0.heap.size = w.heap.size + 8 := by rw [hW0, allocs_size, hos]; rfl
  have b1 : Boxed W0 (w.heap.size + 1) 2 (.int .i64 0) := by rw [hW0]; exact allocs_box (k := 1) (by rw [hos]; rfl) (by omega)
  have b2 : Boxed W0 (w.heap.size + 1 + 1) 2 (.int .i64 F) := by rw [hW0]; exact allocs_box (k := 2) (by rw [hos]; rfl) (by omega)
  have b3 : Boxed W0 (w.heap.size + 1 + 1 + 1) 2 (.int .i64 T) := by rw [hW0]; exact allocs_box (k := 3) (by rw [hos]; rfl) (by omega)
  have b4 : Boxed W0 (w.heap.size + 1 + 1 + 1 + 1) 55 (.int .i64 1) := by rw [hW0]; exact allocs_box (k := 4) (by rw [hos]; rfl) (by omega)
  have b5 : Row W0 (w.heap.size + 1 + 1 + 1 + 1 + 1) 24 (exL x) := by
    show W0.heap[w.heap.size + 5]? = _
    rw [hW0]; exact allocs_at _ _ 5 _ (by rw [hos]; rfl)
  have b6 : Boxed W0 (w.heap.size + 1 + 1 + 1 + 1 + 1 + 1) 2 (.int .i64 f) := by rw [hW0]; exact allocs_box (k := 6) (by rw [hos]; rfl) (by omega)
  have b7 : Boxed W0 (w.heap.size + 1 + 1 + 1 + 1 + 1 + 1 + 1) 2 (.int .i64 t) := by rw [hW0]; exact allocs_box (k := 7) (by rw [hos]; rfl) (by omega)
  change Code.wpIn _ _ _ _ _ _ (allocs w [(.cells #[.int .u64 x.a0, .int .u64 x.a1, .int .u64 x.a2, .int .u64 x.a3, .int .u64 x.a4, .int .u64 x.a5, .bool x.b3, .bool x.b5] 24), .cells #[.int .i64 0] 2, .cells #[.int .i64 F] 2, .cells #[.int .i64 T] 2, .cells #[.int .i64 1] 55, (.cells #[.int .u64 x.a0, .int .u64 x.a1, .int .u64 x.a2, .int .u64 x.a3, .int .u64 x.a4, .int .u64 x.a5, .bool x.b3, .bool x.b5] 24), .cells #[.int .i64 f] 2, .cells #[.int .i64 t] 2])
  rw [← hos, ← hW0]
  clear hos hW0 hT qf wF wT
  have L0 := Lib.hid (LL.out.below hB0)
  have HS := Lib.hid hsz
  have B2 := Lib.hid b2; have B3 := Lib.hid b3
  have TBl := Lib.hid (show 1 < w.heap.size from LL.out.b.lt)
  have TCl := Lib.hid (show 0 < w.heap.size from LL.out.c.lt)
  apply wpIn_rangeFunc_ownG rfl h1 (gf := 74) (lb := #[.pointer (some ⟨w.heap.size + 1 + 1 + 1 + 1, 0, none⟩), .pointer (some ⟨w.heap.size + 1 + 1 + 1 + 1 + 1 + 1, 0, none⟩), .pointer (some ⟨w.heap.size + 1 + 1 + 1 + 1 + 1 + 1 + 1, 0, none⟩), .pointer (some ⟨w.heap.size + 1 + 1 + 1 + 1 + 1, 0, none⟩)]) rfl trivial (enters_of Tryd.func74 (by kernel_rfl) rfl)
    (days_stops (fun b => b = w.heap.size + 1) (n - 1) (by omega) _ _ _ _ .up x OK.out f t (by have := BD.out; omega) (by have := BD.out; omega) (by have := BD.out; omega) (by have := BD.out; omega) (fun h => by
      have h := of_decide_eq_false h
      simp only [Mat.Dir.val] at h
      have := BD.out
      exact ⟨by omega, by omega, by omega, by omega, .inl rfl⟩) (by omega) (by omega) (by omega) (by omega) (by have := TBl.out; omega) (by have := TCl.out; omega) W0 (fun b h => by rw [h]; omega) b4 b6 b7 b5 L0.out) Kc.trans Kc.book (Below.refl _ _) (fun _ => rfl)
    (fun pre W => (Boxed W (w.heap.size + 1) 2 (.int .i64 (sumA T (dys pre))) ∧ (AllB (F + 146097) pre ∧ -22 * (pre.length : Int) ≤ sumA T (dys pre) ∧ sumA T (dys pre) ≤ 22 * (pre.length : Int))) ∧ Kc (fun b => b = w.heap.size + 1) W0 W ∧ Below w.heap.size w W)
    (fun c pre W => Cut (F + 146097) T w c pre W)
    (OwnFrom.and (OwnFrom.and (Own.from (boxed_own _ _ (fun pre : List Dy => Value.int .i64 (sumA T (dys pre)))) _) (ownFrom_pure _ _)) (OwnFrom.and (Own.from Kc.own _) (ownFrom_below (Nat.le_refl _) (by omega))))
    (fun c pre A B row ⟨p, q, e1, e2, e3⟩ hg hr => ⟨p, q, e1, boxed_own _ 2 (fun (_ : Unit) => Value.int .i64 (sumA T (dys p))) () A B row e2 hg (fun r e => (hr r e).2), ownFrom_below (β := Unit) (Nat.le_refl _) (by omega) () A B row e3 hg hr⟩)
    ⟨⟨b1, (fun _ h => by cases h), (by simp [sumA, dys]), (by simp [sumA, dys])⟩, Kc.refl _ _, hB0⟩
    _ ?assign ?body ?done ?stop
  case assign =>
    intro l x W K hK
    gi_wp2
    exact hK
  case body =>
    rintro l pre q W ⟨⟨v1, hp, s0, s1⟩, hk, hB⟩ hlt
    obtain ⟨_, hlen⟩ := lim_lt hlt
    have k2 := hk.box (by omega) B2.out; have k3 := hk.box (by omega) B3.out
    have c1 := v1.cell; have f1 := v1.frozen; have c2 := k2.cell; have c3 := k3.cell
    have qb := q.property
    have fb := FB.out
    have tb := TB.out
    have ab := adds_bd (last := T) (q := q.val) tb.1 (by omega) qb.1 (by omega)
    have HP := Lib.hid hp
    obtain ⟨S, hS⟩ : ∃ S, sumA T (dys pre) = S := ⟨_, rfl⟩
    have SN := Lib.hid (sumA_snoc T q.val (dys pre))
    rw [hS] at SN s0 s1 v1 c1
    have w1 : IntKind.i64.wrap (F + 146097) = F + 146097 := by rw [IntKind.wrap_i64]; omega
    have w2 : IntKind.i64.wrap (T - q.val) = T - q.val := by rw [IntKind.wrap_i64]; omega
    obtain ⟨g, hg⟩ : ∃ g, (T - q.val).tdiv 146097 = g := ⟨_, rfl⟩
    have ha : adds T q.val = 1 + g := by unfold adds; rw [hg]
    rw [ha] at ab SN
    have w3 : IntKind.i64.wrap g = g := by rw [IntKind.wrap_i64]; omega
    have w4 : IntKind.i64.wrap (1 + g) = 1 + g := by rw [IntKind.wrap_i64]; omega
    have w5 : IntKind.i64.wrap (S + (1 + g)) = S + (1 + g) := by rw [IntKind.wrap_i64]; omega
    have AB := Lib.hid (And.intro (And.intro s0 s1) ab)
    have HSS := Lib.hid hS
    clear hlt hlen hp s0 s1 ab hS ha k2 k3 qb fb tb
    by_cases hq : q.val < F + 146097
    · have t1 : decide (F + 146097 ≤ q.val) = false := by simp; omega
      have HQ := Lib.hid hq
      clear hq
      gi_wp2
      refine ⟨(KeepsOthers.setCell _ _ _).from _, (Kc.refl _ W).setCell _ _ rfl, ⟨?_, HP.out.snoc HQ.out, ?_, ?_⟩, hk.setCell _ _ rfl, hB.setCell (p := ⟨w.heap.size + 1, 0, none⟩) (by simp) _⟩
      · rw [dys_snoc, SN.out]; exact v1.set _
      · have := AB.out; rw [dys_snoc, SN.out, List.length_append, List.length_singleton]; omega
      · have := AB.out; rw [dys_snoc, SN.out, List.length_append, List.length_singleton]; omega
    · have t1 : decide (F + 146097 ≤ q.val) = true := by simp; omega
      have HQ := Lib.hid hq
      clear hq
      gi_wp2
      exact ⟨KeepsFrom.refl _ _, pre, q, ⟨rfl, rfl, HP.out, Int.not_lt.2 HQ.out⟩, by rw [HSS.out]; exact v1, hB⟩
  case done =>
    rintro D ys W hD hys ⟨⟨v1, hp, _⟩, hk, hB⟩ hK
    have e : sumA T (dys ys) = datesV x f t := by
      rw [DV.out, ← show dys ys = _ from hys, ahead_all]
      intro q hq
      obtain ⟨a, ha, rfl⟩ := dys_mem hq
      exact hp a ha
    have c1 := v1.cell
    rw [e] at c1
    clear hp hys e v1
    gi_wp2
    refine ⟨by simp, .inl ⟨_, _, rfl, run_takeDeferred hK, ?_⟩⟩
    exact ⟨_, results_tmp rfl _ _ _, rfl, hB.trans (belowK_b (w := w) (Nat.le_refl _) W D _ _ (by omega) hK rfl rfl)⟩
  case stop =>
    rintro D c pre W hD hpre ⟨p, q, ⟨rfl, rfl, hp, hq⟩, v1, hB⟩ hK
    have e : sumA T (dys p) = datesV x f t := by
      obtain ⟨r, hr⟩ := hpre
      have so := daysL_sorted .up x f t
      have hr : dys (p ++ [q]) ++ r = Mat.Dir.up.daysL x f t := hr
      rw [DV.out, ← hr]
      rw [← hr] at so
      rw [dys_snoc, List.append_assoc, List.singleton_append] at so ⊢
      rw [ahead_cut _ hq _]
      · intro a ha
        obtain ⟨b, hb, rfl⟩ := dys_mem ha
        exact hp b hb
      · exact List.Pairwise.imp (fun {a b} h => by simp only [Mat.Dir.val] at h; omega) so
    have c1 := v1.cell
    rw [e] at c1
    clear hp hpre hq e v1
    gi_wp2
    refine ⟨by simp, .inl ⟨_, _, rfl, run_takeDeferred hK, ?_⟩⟩
    exact ⟨_, results_tmp rfl _ _ _, rfl, hB.trans (belowK_b (w := w) (Nat.le_refl _) W D _ _ (by omega) hK rfl rfl)⟩
end
theorem dates_any (x : Exp.Ex) (hok : x.Ok) (f t : Int) (f0 : 0 ≤ f) (f1 : f ≤ 253402300799) (t0 : -1 ≤ t) (t1 : t ≤ 253402300799) (w : World) (L : LayM w) :
    Calls Tryd.prog 49 #[.agg #[.int .u64 x.a0, .int .u64 x.a1, .int .u64 x.a2, .int .u64 x.a3, .int .u64 x.a4, .int .u64 x.a5, .bool x.b3, .bool x.b5], .int .i64 f, .int .i64 t] w fun e W' => e = .returned (.int .i64 (datesV x f t)) ∧ Below w.heap.size w W' := callsIn_wide.1 (dates_in 3 (by omega) x hok f t f0 f1 t0 t1 w L)
end Go.Proofs.YtbehendogcghjaaDoor
