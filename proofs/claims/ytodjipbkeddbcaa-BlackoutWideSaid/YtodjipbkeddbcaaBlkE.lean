/- Contract of combine of package blackout. -/
import Derived.Test.YtodjipbkeddbcaaBlkD
namespace Go.Proofs.Ytodjipbkeddbcaa.Bk
/-- as step, run; the end of a span as Go reckons it, for any times -/
def stepW (s : St) (t : Int) (p : Bool) : St := if p = s.ins then s else if s.ins = true then ⟨s.out ++ [(s.fr, IntKind.i64.wrap (t - 1))], false, t⟩ else ⟨s.out, true, t⟩
def runW (f : Bool → Bool → Bool) : List (Int × Bool × Bool) → St → St
  | [], s => s
  | x :: r, s => runW f r (stepW s x.1 (f x.2.1 x.2.2))
theorem runW_snoc (f : Bool → Bool → Bool) (l : List (Int × Bool × Bool)) (x : Int × Bool × Bool) (s : St) : runW f (l ++ [x]) s = stepW (runW f l s) x.1 (f x.2.1 x.2.2) := by
  induction l generalizing s with
  | nil => rfl
  | cons y r ih => simp only [List.cons_append, runW, ih]
theorem stepW_len (s : St) (t : Int) (p : Bool) : (stepW s t p).out.length ≤ s.out.length + 1 := by
  unfold stepW
  split
  · omega
  · split
    · simp
    · simp
theorem runW_len (f : Bool → Bool → Bool) : ∀ (l : List (Int × Bool × Bool)) (s : St), (runW f l s).out.length ≤ s.out.length + l.length
  | [], s => by simp [runW]
  | x :: r, s => by
    have := runW_len f r (stepW s x.1 (f x.2.1 x.2.2))
    have := stepW_len s x.1 (f x.2.1 x.2.2)
    simp only [runW, List.length_cons]
    omega
theorem runW_is (f : Bool → Bool → Bool) : ∀ {l : List (Int × Bool × Bool)} (s : St), (∀ x ∈ l, IntKind.i64.wrap (x.1 - 1) = x.1 - 1) → runW f l s = run f l s
  | [], s, _ => rfl
  | x :: r, s, h => by
    have e : stepW s x.1 (f x.2.1 x.2.2) = step s x.1 (f x.2.1 x.2.2) := by
      unfold stepW step
      rw [h x List.mem_cons_self]
    simp only [runW, run, e]
    exact runW_is f _ (fun y hy => h y (List.mem_cons_of_mem _ hy))
theorem bor_wrap {a b : List (Int × Int)} (ha : OkS a) (hb : OkS b) : ∀ x ∈ bor a b, IntKind.i64.wrap (x.1 - 1) = x.1 - 1 := by
  intro x hx
  obtain ⟨t, ht, rfl⟩ := List.mem_map.1 hx
  rw [bords_mem] at ht
  rcases ht with h | ⟨y, hy, h⟩
  · simp at h
  · have o := (ha.append hb) y hy
    unfold okT at o
    show IntKind.i64.wrap (t - 1) = t - 1
    rw [IntKind.wrap_i64]
    omega
end Go.Proofs.Ytodjipbkeddbcaa.Bk
namespace Go.Proofs.Ytodjipbkeddbcaa
open Go.ChangeShapes Go.RowKit Go.Shelf

theorem borders_any (A1 A2 : Option Addr) (n1 c1 n2 c2 : Nat) (va vb : Value) (ea : va = .slice A1 n1 c1) (eb : vb = .slice A2 n2 c2) (w : World) :
    Calls Try.prog 59 #[va, vb] w fun e w' => e = .returned (.func (.func 61) #[] #[.pointer (some ⟨w.heap.size, 0, none⟩), .pointer (some ⟨w.heap.size + 1, 0, none⟩)]) ∧
      Boxed w' w.heap.size 22 va ∧ Boxed w' (w.heap.size + 1) 22 vb ∧ Below w.heap.size w w' ∧ w'.heap.size = w.heap.size + 2 := by
  subst ea eb
  obtain ⟨va, ea⟩ : ∃ v : Value, Value.slice A1 n1 c1 = v := ⟨_, rfl⟩
  obtain ⟨vb, eb⟩ : ∃ v : Value, Value.slice A2 n2 c2 = v := ⟨_, rfl⟩
  rw [ea, eb]
  have B1 := Boxed.new w 22 va
  have B2 := Boxed.new (w.alloc (.cells #[va] 22)) 22 vb
  rw [World.size_alloc] at B2
  have F := Lib.hid (And.intro (B1.alloc (.cells #[vb] 22)) (And.intro B2 (((Below.refl _ w).alloc (Nat.le_refl _) (.cells #[va] 22)).alloc (by simp) (.cells #[vb] 22))))
  clear B1 B2
  subst ea eb
  go_enter Try.func59, Try.ntmps59
  go_wp2_with fail
  go_ret
  exact ⟨rfl, F.out.1, F.out.2.1, F.out.2.2, by simp⟩
theorem borders_stops (own : Nat → Prop) (n : Nat) (hn : 3 ≤ n) (Ba Bb : Nat) (va vb : Value) (a b : List (Int × Int)) (oka : Bk.OkL a) (okb : Bk.OkL b) (V w : World)
    (hV : Below V.heap.size V w) (hown : ∀ b, own b → V.heap.size ≤ b ∧ b < w.heap.size) (ra : RowS V va a) (rb : RowS V vb b) (oa : ¬ own Ba) (ob : ¬ own Bb)
    (ca : Boxed w Ba 22 va) (cb : Boxed w Bb 22 vb) :
    SeqStopsK Fence.wide n Try.prog 61 #[.pointer (some ⟨Ba, 0, none⟩), .pointer (some ⟨Bb, 0, none⟩)] mgV (Kt own w.heap.size) (fun ys => ys = Bk.bor a b) (fun pre => pre <+: Bk.bor a b) (Bk.bor a b).length w := fun l J Jx W hW hJ _ hY h0 =>
  iter_in n hn l Ba Bb va vb a b oka okb own w.heap.size V w W.heap.size J Jx hJ rfl hV hown ra rb ca.lt cb.lt oa ob ca.cell cb.cell hY W hW h0
/-- a store into the caller's own box, behind an append to the caller's own row -/
theorem Kt.append {own : Nat → Prop} {n₀ base : Nat} {W w1 : World} {B : Nat} {v v' : Value} {k : Nat} {xs : List Value} {tmp : Obj} (hB : own B) (hb : n₀ ≤ base) (hrow : W.ownsRow base 27 2 v k xs)
    (hgrow : (W.alloc tmp).grownBy w1 v.ownBlock) (hn : n₀ ≤ W.heap.size) : Kt own n₀ W (w1.setCell ⟨B, 0, none⟩ v') := by
  have hs := (grownBy_setCell' w1 B v').size
  have hs2 := hgrow.size
  rw [World.size_alloc] at hs2
  refine ⟨by omega, fun b hb1 ho => ?_, fun b c t f ho q ht => ?_⟩
  · rw [Below.heap_setCell _ _ _ b (fun e => ho (by rw [e]; exact hB))]
    rw [hgrow.block b (by rw [World.size_alloc]; omega) ?_]
    · exact ((Below.refl _ W).alloc (Nat.le_refl _) tmp).block b (by omega)
    · rcases hrow.2 with ⟨rfl, _⟩ | ⟨g, cap, cur, rfl, hg, _⟩
      · simp [Value.ownBlock]
      · intro e
        obtain rfl : b = g := by simpa [Value.ownBlock] using e
        omega
  · have hlt := (Array.getElem?_eq_some_iff.1 q).1
    rw [Below.heap_setCell _ _ _ b (fun e => ho (by rw [e]; exact hB))]
    rw [hgrow.block b (by rw [World.size_alloc]; omega) ?_]
    · exact (((Below.refl _ W).alloc (Nat.le_refl _) tmp).block b hlt).trans q
    · rcases hrow.2 with ⟨rfl, _⟩ | ⟨g, cap, cur, rfl, hg, hgb, _⟩
      · simp [Value.ownBlock]
      · intro e
        obtain rfl : b = g := by simpa [Value.ownBlock] using e
        rw [hgb] at q
        cases q
        exact ht rfl
theorem Kt.set {own : Nat → Prop} {n₀ : Nat} {W : World} {B : Nat} (hB : own B) (v : Value) : Kt own n₀ W (W.setCell ⟨B, 0, none⟩ v) :=
  ⟨(grownBy_setCell' W B v).size, fun b _ ho => Below.heap_setCell _ _ _ b (fun e => ho (by rw [e]; exact hB)), fun b c t f ho q _ => (Below.heap_setCell _ _ _ b (fun e => ho (by rw [e]; exact hB))).trans q⟩
theorem keeps_below {W W' : World} (h : Below W.heap.size W W') : KeepsOthers W W' := ⟨h.size, fun k _ hk _ => (h.block k (Array.getElem?_eq_some_iff.1 hk).1).trans hk⟩
theorem row_free {W : World} {base : Nat} {e : TypeId} {size k : Nat} {v : Value} {xs : List Value} (h : W.ownsRow base e size v k xs) {row : Option Nat} (hr : ∀ r, row = some r → ∃ o : Obj, W.heap[r]? = some o ∧ o.isCells = false) : v.ownBlock = none ∨ v.ownBlock ≠ row := by
  rcases h.2 with ⟨rfl, _⟩ | ⟨g, cap, cur, rfl, _, hgb, _⟩
  · exact .inl rfl
  · refine .inr fun e' => ?_
    obtain ⟨o, ho, hc⟩ := hr g (by simpa [Value.ownBlock] using e'.symm)
    rw [hgb] at ho; cases ho; cases hc

/-- the state between two borders: the result so far, in its box; whether a span is open, and since when; the function that is asked -/
structure CS (w W0 : World) (m G g : Nat) (v : Value) (s : Bk.St) (W : World) : Prop where
  bv : Boxed W m 22 v
  rv : W.ownsRow W0.heap.size 27 2 v s.out.length (s.out.flatMap encS)
  bi : Boxed W (m + 1) 4 (.bool s.ins)
  bf : Boxed W (m + 1 + 1) 2 (.int .i64 s.fr)
  bg : Boxed W G 64 (.func (.func g) #[] #[])
  be : Below w.heap.size w W
  sz : W0.heap.size ≤ W.heap.size
theorem CS.grow {w W0 : World} {m G g : Nat} {v : Value} {s : Bk.St} {base : Nat} {A B : World} {row : Option Nat} (h : CS w W0 m G g v s A) (hb : w.heap.size ≤ base) (hg : A.grownBy B row) (hr : ∀ r, row = some r → base ≤ r ∧ ∃ o : Obj, A.heap[r]? = some o ∧ o.isCells = false) : CS w W0 m G g v s B := by
  have hr' : ∀ r, row = some r → ∃ o : Obj, A.heap[r]? = some o ∧ o.isCells = false := fun r e => (hr r e).2
  have bx : ∀ {b t v}, Boxed A b t v → Boxed B b t v := fun {b t v} q => boxed_own b t (fun (_ : Unit) => v) () A B row q hg hr'
  exact ⟨bx h.bv, h.rv.kept hg (row_free h.rv hr'), bx h.bi, bx h.bf, bx h.bg, ownFrom_below (β := Unit) (Nat.le_refl _) hb () A B row h.be hg hr, Nat.le_trans h.sz hg.size⟩
theorem CS.below {w W0 : World} {m G g : Nat} {v : Value} {s : Bk.St} {A B : World} (h : CS w W0 m G g v s A) (hb : Below A.heap.size A B) : CS w W0 m G g v s B :=
  h.grow (row := none) (Nat.le_refl _) ⟨hb.os, hb.tape, hb.output, hb.size, fun k hk _ => hb.block k hk⟩ (fun _ e => by cases e)
theorem CS.alloc {w W0 : World} {m G g : Nat} {v : Value} {s : Bk.St} {A : World} (h : CS w W0 m G g v s A) (o : Obj) : CS w W0 m G g v s (A.alloc o) := h.below ((Below.refl _ A).alloc (Nat.le_refl _) o)
/-- what the rounds may write -/
def ownC (m b : Nat) : Prop := m ≤ b ∧ b ≤ m + 1 + 1
theorem CS.append {w W0 W w1 : World} {m G g : Nat} {v v' : Value} {s : Bk.St} {o : Obj} {x : Int × Int} (h : CS w W0 m G g v s W) (hm : m + 1 + 1 < W0.heap.size) (hw : w.heap.size ≤ m)
    (hown : w1.ownsRow W0.heap.size 27 2 v' (s.out.length + 1) (s.out.flatMap encS ++ encS x)) (hg : (W.alloc o).grownBy w1 v.ownBlock) :
    CS w W0 m G g v' ⟨s.out ++ [x], s.ins, s.fr⟩ (w1.setCell ⟨m, 0, none⟩ v') ∧ KeepsOthers W (w1.setCell ⟨m, 0, none⟩ v') ∧ Kt (ownC m) W0.heap.size W (w1.setCell ⟨m, 0, none⟩ v') ∧ w1.cell? ⟨m, 0, none⟩ = some v ∧ w1.frozen? ⟨m, 0, none⟩ = false := by
  have b1 : Boxed w1 (m + 1) 4 (.bool s.ins) := (h.bi.alloc o).kept hg (h.bi.not_row (by decide) h.rv)
  have b2 : Boxed w1 (m + 1 + 1) 2 (.int .i64 s.fr) := (h.bf.alloc o).kept hg (h.bf.not_row (by decide) h.rv)
  have b3 : Boxed w1 G 64 (.func (.func g) #[] #[]) := (h.bg.alloc o).kept hg (h.bg.not_row (by decide) h.rv)
  have hs := h.sz
  have q := h.bv.appended (n₀ := w.heap.size) (by decide) (ownsRow_base h.rv (by omega)) h.be.size hw (ownsRow_base hown (by omega)) hg
  have kt := Kt.append (v' := v') (own := ownC m) (B := m) (by unfold ownC; omega) (Nat.le_refl _) h.rv hg hs
  have gm : G ≠ m := fun e => by subst e; have := h.bg.symm.trans h.bv; cases this
  refine ⟨⟨q.2.1, ?_, b1.other (by omega) _, b2.other (by omega) _, b3.other gm _, h.be.trans q.2.2.2.2, by have := kt.size; omega⟩, q.2.2.2.1, kt, q.1.cell, q.1.frozen⟩
  have r1 := hown.kept (grownBy_setCell' w1 m v') (.inr (q.1.not_row (by decide) hown).symm)
  rw [List.flatMap_append, List.length_append]
  simpa using r1
theorem CS.set {w W0 W : World} {m G g : Nat} {v : Value} {s : Bk.St} (h : CS w W0 m G g v s W) (hw : w.heap.size ≤ m) (hG : G < m) (p : Bool) (t : Int) :
    CS w W0 m G g v ⟨s.out, p, t⟩ ((W.setCell ⟨m + 1, 0, none⟩ (.bool p)).setCell ⟨m + 1 + 1, 0, none⟩ (.int .i64 t)) ∧ KeepsOthers W ((W.setCell ⟨m + 1, 0, none⟩ (.bool p)).setCell ⟨m + 1 + 1, 0, none⟩ (.int .i64 t)) ∧ Kt (ownC m) W0.heap.size W ((W.setCell ⟨m + 1, 0, none⟩ (.bool p)).setCell ⟨m + 1 + 1, 0, none⟩ (.int .i64 t)) := by
  have e1 := grownBy_setCell' W (m + 1) (.bool p)
  have e2 := grownBy_setCell' (W.setCell ⟨m + 1, 0, none⟩ (.bool p)) (m + 1 + 1) (.int .i64 t)
  have r1 := h.rv.kept e1 (.inr (h.bi.not_row (by decide) h.rv).symm)
  have b2 := (h.bf.other (by omega : m + 1 + 1 ≠ m + 1) (.bool p))
  have r2 := r1.kept e2 (.inr (b2.not_row (by decide) r1).symm)
  refine ⟨⟨(h.bv.other (by omega) _).other (by omega) _, r2, (h.bi.set _).other (by omega) _, b2.set _, (h.bg.other (by omega) _).other (by omega) _, (h.be.setCell (by show _ ≤ m + 1; omega) _).setCell (by show _ ≤ m + 1 + 1; omega) _, by have := e1.size; have := e2.size; have := h.sz; omega⟩,
    (KeepsOthers.setCell _ _ _).trans (KeepsOthers.setCell _ _ _), (Kt.set (by unfold ownC; omega) _).trans (Kt.set (by unfold ownC; omega) _)⟩

section
variable {F : Fence} {n : Nat} {P : Program} {ops : Array Oper} {Q : Exit → Act → World → Prop} {md : Region.Mode}
/-- a region that draws its order, step by step: what is ready, one after the other -/
theorem anyIn_cons {fuel : Nat} {listed : Array Bool} {a : Act} {w : World} {l : List Nat} (hr : Region.ready md ops listed = l) (hl : l ≠ [])
    (h : ∀ i ∈ l, wpOpIn F n P ops Q i (wpAnyIn F n P md ops Q fuel (listed.setIfInBounds i true)) a w) : wpAnyIn F n P md ops Q (fuel + 1) listed a w :=
  ⟨fun e => absurd (hr.symm.trans e) hl, by rw [hr]; exact h⟩
theorem anyIn_end {listed : Array Bool} {a : Act} {w : World} (hr : Region.ready md ops listed = []) (h : Q .normal a w) : wpAnyIn F n P md ops Q 0 listed a w := ⟨hr, h⟩
theorem opIn_at {i : Nat} {o : Oper} {K : Act → World → Prop} {a : Act} {w : World} (ho : ops[i]? = some o) (hg : o.guard = none) (h : o.wpIn F n P a w K Q) : wpOpIn F n P ops Q i K a w := by
  unfold wpOpIn
  rw [ho]
  simp only [Region.wanted, hg, if_true]
  exact h
end

/-- the closures of Union (1), Meet (2), Without (3) -/
def BelC (g : Nat) (k : Int) : Prop := ∀ (p q : Bool) (W : World), Calls Try.prog g #[.agg #[.bool p, .bool q]] W fun e w' => e = .returned (.bool (Bk.bel k p q)) ∧ Below W.heap.size W w'

attribute [local go_sem] Oper.semAt_some
set_option maxRecDepth 100000 in
set_option maxHeartbeats 4000000 in
theorem combine_in (n : Nat) (hn : 5 ≤ n) (g : Nat) (k : Int) (eg : ∀ args w, (callFunc g args).run Try.prog w = .ok (.enter g args) w) (hg : BelC g k) (va vb : Value) (a b : List (Int × Int)) (w : World) (ha : RowS w va a) (hb : RowS w vb b) (h : Bk.err2 a b = 0) :
    CallsIn Fence.wide n Try.prog 46 #[va, vb, .func (.func g) #[] #[]] w fun e w' => ∃ u, e = .returned (.tuple #[u, .int .i64 0]) ∧ OwnS w u (Bk.run (Bk.bel k) (Bk.bor a b) ⟨[], false, 0⟩).out w' := by
  have h1 : 1 ≤ n := by omega
  obtain ⟨i0, hi, hz0, hz1, hz2⟩ := info_parts infoS
  have OA := Lib.hid (Bk.errL_zero.1 (Bk.err2_zero.1 h).1)
  have OB := Lib.hid (Bk.errL_zero.1 (Bk.err2_zero.1 h).2)
  have HB := Lib.hid (below_new (below_new (Below.refl _ w) (.cells #[.func (.func g) #[] #[]] 64) (Nat.le_refl _)) (.cells #[va, vb] 22) (Nat.le_refl _))
  have G0 := Lib.hid ((Boxed.new w 64 (.func (.func g) #[] #[])).alloc (.cells #[va, vb] 22))
  have CK := Lib.hid (fun g W hc hd h1 h2 => check_two g va vb a b 0 h W hc hd h1 h2)
  have HG := Lib.hid hg
  have EG := Lib.hid eg
  have RA := Lib.hid ha
  have RB := Lib.hid hb
  have ML := Bk.bor_len a b
  have LA := OA.out.1
  have LB := OB.out.1
  obtain ⟨A1, cap1, rfl⟩ := ha.len
  obtain ⟨A2, cap2, rfl⟩ := hb.len
  clear h ha hb hg eg
  refine callsIn_of_wp_marks Try.func46 rfl trivial ?_ rfl
  simp only [Try.ntmps46, List.size_toArray, List.length_cons, List.length_nil, Nat.reduceAdd, Nat.reduceSub, Array.replicate_succ, Array.replicate_zero, List.push_toArray, List.append_toArray, List.nil_append, List.cons_append]
  gi_wp2_with (refine ⟨trivial, ?_⟩; gi_at_call 41; refine (callsIn_wide.2 (CK.out _ _ (by simp [go_sem]) (by simp [go_sem]) (RA.out.below HB.out) (RB.out.below HB.out))).mono ?_; rintro e V ⟨rfl, hb⟩)
  have B1 : Hid (Below w.heap.size w V) := Lib.hid (below_next HB.out hb)
  have RA1 := Lib.hid (RA.out.below B1.out)
  have RB1 := Lib.hid (RB.out.below B1.out)
  have G1 : Hid (Boxed V w.heap.size 64 (.func (.func g) #[] #[])) := Lib.hid ((hb.block _ (by simp; omega)).trans G0.out)
  clear hb
  gi_wp2_with (refine ⟨trivial, ?_⟩; gi_at_call 59; refine (callsIn_wide.2 (borders_any _ _ _ _ _ _ _ _ rfl rfl _)).mono ?_; rintro e W0 ⟨rfl, q1, q2, q3, q4⟩)
  -- GEN
  simp only [World.size_alloc] at q1 q2 q3 q4
  have sV := B1.out.size
  have bV : ∀ k, k < V.heap.size + 1 + 1 + 1 → W0.heap[k]? = (((V.alloc (.cells #[.slice none 0 0] 22)).alloc (.cells #[.bool false] 4)).alloc (.cells #[.int .i64 0] 2)).heap[k]? := fun k hk => q3.block k hk
  have bM : Boxed W0 V.heap.size 22 (.slice none 0 0) := (bV _ (by omega)).trans (((Boxed.new V 22 (.slice none 0 0)).alloc _).alloc _)
  have bI : Boxed W0 (V.heap.size + 1) 4 (.bool false) := (bV _ (by omega)).trans (by have := (Boxed.new (V.alloc (.cells #[.slice none 0 0] 22)) 4 (.bool false)).alloc (.cells #[.int .i64 0] 2); rw [World.size_alloc] at this; exact this)
  have bF : Boxed W0 (V.heap.size + 1 + 1) 2 (.int .i64 0) := (bV _ (by omega)).trans (by have := Boxed.new ((V.alloc (.cells #[.slice none 0 0] 22)).alloc (.cells #[.bool false] 4)) 2 (.int .i64 0); rw [World.size_alloc, World.size_alloc] at this; exact this)
  have bG : Boxed W0 w.heap.size 64 (.func (.func g) #[] #[]) := (bV _ (by have := G1.out.lt; omega)).trans (((G1.out.alloc _).alloc _).alloc _)
  have BV : Below V.heap.size V W0 := ((((Below.refl _ V).alloc (Nat.le_refl _) _).alloc (by simp) _).alloc (by simp; omega) _).trans (q3.mono (by omega))
  have BW : Below w.heap.size w W0 := B1.out.trans (BV.mono B1.out.size)
  have gV := G1.out.lt
  have OC : ∀ b, ownC V.heap.size b → V.heap.size ≤ b ∧ b < W0.heap.size := fun b e => by unfold ownC at e; omega
  have z1 : V.heap.size + 1 + 1 + 1 < W0.heap.size := by omega
  clear q3 bV q4
  apply wpIn_rangeFunc_ownH rfl h1 (gf := 61) (lb := #[.pointer (some ⟨V.heap.size + 1 + 1 + 1, 0, none⟩), .pointer (some ⟨V.heap.size + 1 + 1 + 1 + 1, 0, none⟩)]) rfl trivial (enters_of Try.func61 (by kernel_rfl) rfl)
    (borders_stops (ownC V.heap.size) (n - 1) (by omega) _ _ _ _ a b OA.out OB.out V W0 BV OC RA1.out RB1.out (by unfold ownC; omega) (by unfold ownC; omega) q1 q2) Kt.trans (Kt.book (Nat.le_refl _)) (Below.refl _ _) (fun _ => rfl)
    (fun pre W => ∃ v, CS w W0 V.heap.size w.heap.size g v (Bk.runW (Bk.bel k) pre ⟨[], false, 0⟩) W)
    (fun _ _ _ => False)
    (fun pre A B row ⟨v, h⟩ hg hr => ⟨v, h.grow (by omega) hg hr⟩)
    (fun _ _ _ _ _ hs _ _ => hs)
    ⟨_, bM, World.ownsRow_nil _ _ _ _, bI, bF, bG, BW, Nat.le_refl _⟩
    (fun x a' W => ∃ By, V.heap.size + 1 + 1 < By ∧ W.heap[By]? = some (.cells #[.bool x.2.1, .bool x.2.2] 63) ∧ a' = { tmps := #[.slice A1 a.length cap1, .slice A2 b.length cap2, .func (.func g) #[] #[], undef, undef, .pointer (some ⟨w.heap.size, 0, none⟩), .slice none 0 0, .int .i64 0, .int .i64 0, .pointer (some ⟨V.heap.size, 0, none⟩), .pointer (some ⟨V.heap.size + 1, 0, none⟩), .pointer (some ⟨V.heap.size + 1 + 1, 0, none⟩), .int .i64 x.1, .pointer (some ⟨By, 0, none⟩), .slice A1 a.length cap1, .slice A2 b.length cap2, .slice (some ⟨w.heap.size + 1, 0, none⟩) 2 2, .int .i64 0, .int .i64 0, .bool false, undef, .slice A1 a.length cap1, .slice A2 b.length cap2, .func (.func 61) #[] #[.pointer (some ⟨V.heap.size + 1 + 1 + 1, 0, none⟩), .pointer (some ⟨V.heap.size + 1 + 1 + 1 + 1, 0, none⟩)], .int .i64 x.1, .agg #[.bool x.2.1, .bool x.2.2], undef, undef, undef, undef, undef, undef, undef, undef, undef, undef, undef, undef, undef, undef, undef, undef, undef], defers := [] })
    (fun x a' _ X Y row hs hg hr => by
      obtain ⟨By, e1, e2, e3⟩ := hs
      refine ⟨By, e1, (hg.block By (Array.getElem?_eq_some_iff.1 e2).1 fun e => ?_).trans e2, e3⟩
      obtain ⟨_, o, ho, hc⟩ := hr By e.symm
      rw [e2] at ho; cases ho; cases hc)
    ?assign ?body ?done ?stop
  case assign =>
    rintro l pre x W K ⟨v, h⟩ hK
    simp only [mgV]
    gi_wp2
    have hs := h.sz
    refine hK _ _ ((KeepsOthers.alloc _ _).from _) ((Kt.refl _ _ W).alloc hs _) ⟨v, h.alloc _⟩ ⟨W.heap.size, by omega, World.alloc_heap_new W _, rfl⟩
  case body =>
    rintro l pre ⟨t, p, q⟩ a' W hl hr ⟨v, h⟩ ⟨By, hBy, hblk, rfl⟩ hlt
    have RL := Bk.runW_len (Bk.bel k) pre ⟨[], false, 0⟩
    simp only [List.length_nil, Nat.zero_add] at RL
    have ES := Bk.runW_snoc (Bk.bel k) pre (t, p, q) ⟨[], false, 0⟩
    simp only at ES
    obtain ⟨s, hs⟩ : ∃ s, Bk.runW (Bk.bel k) pre ⟨[], false, 0⟩ = s := ⟨_, rfl⟩
    rw [hs] at h RL ES
    obtain ⟨so, si, sf⟩ := s
    obtain ⟨r, hbel⟩ : ∃ r, Bk.bel k p q = r := ⟨_, rfl⟩
    obtain ⟨Wd, hWd⟩ : ∃ Wd, ({ W with drawn := W.drawn + 1 } : World) = Wd := ⟨_, rfl⟩
    have BD : Hid (Below W.heap.size W Wd) := Lib.hid (by rw [← hWd]; exact below_drewN (Below.refl _ W) 1)
    have SW := Lib.hid h
    have SD := Lib.hid (h.below BD.out)
    have HC := Lib.hid (HG.out p q Wd)
    rw [hbel] at HC
    have cg := SD.out.bg.cell
    have ci := SD.out.bi.cell
    have hbd := BD.out.block By (Array.getElem?_eq_some_iff.1 hblk).1
    rw [hblk] at hbd
    have w0 : Wd.cell? ⟨By, 0, none⟩ = some (.bool p) := by simp [World.cell?, hbd]
    have w1 : Wd.cell? ⟨By, 1, none⟩ = some (.bool q) := by simp [World.cell?, hbd]
    rw [hbel] at ES
    have HBEL := Lib.hid ES
    have eg := EG.out
    clear h hbd hblk hs hbel ES
    cases r with
    | false =>
      cases si with
      | false =>
        gi_wp2_with fail
        refine wpIn_mono (Q := fun e a2 w2 => e = .normal ∧ a2 = { tmps := #[.slice A1 a.length cap1, .slice A2 b.length cap2, .func (.func g) #[] #[], undef, undef, .pointer (some ⟨w.heap.size, 0, none⟩), .slice none 0 0, .int .i64 0, .int .i64 0, .pointer (some ⟨V.heap.size, 0, none⟩), .pointer (some ⟨V.heap.size + 1, 0, none⟩), .pointer (some ⟨V.heap.size + 1 + 1, 0, none⟩), .int .i64 t, .pointer (some ⟨By, 0, none⟩), .slice A1 a.length cap1, .slice A2 b.length cap2, .slice (some ⟨w.heap.size + 1, 0, none⟩) 2 2, .int .i64 0, .int .i64 0, .bool false, undef, .slice A1 a.length cap1, .slice A2 b.length cap2, .func (.func 61) #[] #[.pointer (some ⟨V.heap.size + 1 + 1 + 1, 0, none⟩), .pointer (some ⟨V.heap.size + 1 + 1 + 1 + 1, 0, none⟩)], .int .i64 t, .agg #[.bool p, .bool q], .func (.func g) #[] #[], .agg #[.bool p, .bool q], .bool false, .bool false, .bool true, undef, undef, undef, undef, undef, undef, undef, undef, undef, undef, undef, undef], defers := [] } ∧ Below Wd.heap.size Wd w2) ?_ ?_
        · refine wpIn_region_any (by kernel_rfl) ?_
          rw [hWd]
          refine anyIn_cons (l := [0, 1, 3]) (by kernel_rfl) (by simp) ?_
          intro i hi
          obtain rfl | rfl | rfl : i = 0 ∨ i = 1 ∨ i = 3 := by simpa using hi
          · clear hi
            refine opIn_at rfl rfl ?_
            gi_wp2
            refine anyIn_cons (l := [1, 3]) (by kernel_rfl) (by simp) ?_
            intro i hi
            obtain rfl | rfl : i = 1 ∨ i = 3 := by simpa using hi
            · clear hi
              refine opIn_at rfl rfl ?_
              gi_wp2
              refine anyIn_cons (l := [2, 3]) (by kernel_rfl) (by simp) ?_
              intro i hi
              obtain rfl | rfl : i = 2 ∨ i = 3 := by simpa using hi
              · clear hi
                refine opIn_at rfl rfl ?_
                gi_wp2_with fail
                refine ⟨trivial, fun h => (by cases h), (CallsIn.inRound l (callsIn_wide.2 HC.out)).mono ?_⟩
                rintro e V' ⟨rfl, hb'⟩
                have ci2 := (SD.out.below hb').bi.cell
                gi_wp2
                refine anyIn_cons (l := [3]) (by kernel_rfl) (by simp) ?_
                intro i hi
                obtain rfl : i = 3 := by simpa using hi
                clear hi
                refine opIn_at rfl rfl ?_
                gi_wp2
                refine anyIn_cons (l := [4]) (by kernel_rfl) (by simp) ?_
                intro i hi
                obtain rfl : i = 4 := by simpa using hi
                clear hi
                refine opIn_at rfl rfl ?_
                gi_wp2
                exact anyIn_end (by kernel_rfl) ⟨rfl, rfl, hb'⟩
              · clear hi
                refine opIn_at rfl rfl ?_
                gi_wp2
                refine anyIn_cons (l := [2]) (by kernel_rfl) (by simp) ?_
                intro i hi
                obtain rfl : i = 2 := by simpa using hi
                clear hi
                refine opIn_at rfl rfl ?_
                gi_wp2_with fail
                refine ⟨trivial, fun h => (by cases h), (CallsIn.inRound l (callsIn_wide.2 HC.out)).mono ?_⟩
                rintro e V' ⟨rfl, hb'⟩
                have ci2 := (SD.out.below hb').bi.cell
                gi_wp2
                refine anyIn_cons (l := [4]) (by kernel_rfl) (by simp) ?_
                intro i hi
                obtain rfl : i = 4 := by simpa using hi
                clear hi
                refine opIn_at rfl rfl ?_
                gi_wp2
                exact anyIn_end (by kernel_rfl) ⟨rfl, rfl, hb'⟩
            · clear hi
              refine opIn_at rfl rfl ?_
              gi_wp2
              refine anyIn_cons (l := [1]) (by kernel_rfl) (by simp) ?_
              intro i hi
              obtain rfl : i = 1 := by simpa using hi
              clear hi
              refine opIn_at rfl rfl ?_
              gi_wp2
              refine anyIn_cons (l := [2]) (by kernel_rfl) (by simp) ?_
              intro i hi
              obtain rfl : i = 2 := by simpa using hi
              clear hi
              refine opIn_at rfl rfl ?_
              gi_wp2_with fail
              refine ⟨trivial, fun h => (by cases h), (CallsIn.inRound l (callsIn_wide.2 HC.out)).mono ?_⟩
              rintro e V' ⟨rfl, hb'⟩
              have ci2 := (SD.out.below hb').bi.cell
              gi_wp2
              refine anyIn_cons (l := [4]) (by kernel_rfl) (by simp) ?_
              intro i hi
              obtain rfl : i = 4 := by simpa using hi
              clear hi
              refine opIn_at rfl rfl ?_
              gi_wp2
              exact anyIn_end (by kernel_rfl) ⟨rfl, rfl, hb'⟩
          · clear hi
            refine opIn_at rfl rfl ?_
            gi_wp2
            refine anyIn_cons (l := [0, 3]) (by kernel_rfl) (by simp) ?_
            intro i hi
            obtain rfl | rfl : i = 0 ∨ i = 3 := by simpa using hi
            · clear hi
              refine opIn_at rfl rfl ?_
              gi_wp2
              refine anyIn_cons (l := [2, 3]) (by kernel_rfl) (by simp) ?_
              intro i hi
              obtain rfl | rfl : i = 2 ∨ i = 3 := by simpa using hi
              · clear hi
                refine opIn_at rfl rfl ?_
                gi_wp2_with fail
                refine ⟨trivial, fun h => (by cases h), (CallsIn.inRound l (callsIn_wide.2 HC.out)).mono ?_⟩
                rintro e V' ⟨rfl, hb'⟩
                have ci2 := (SD.out.below hb').bi.cell
                gi_wp2
                refine anyIn_cons (l := [3]) (by kernel_rfl) (by simp) ?_
                intro i hi
                obtain rfl : i = 3 := by simpa using hi
                clear hi
                refine opIn_at rfl rfl ?_
                gi_wp2
                refine anyIn_cons (l := [4]) (by kernel_rfl) (by simp) ?_
                intro i hi
                obtain rfl : i = 4 := by simpa using hi
                clear hi
                refine opIn_at rfl rfl ?_
                gi_wp2
                exact anyIn_end (by kernel_rfl) ⟨rfl, rfl, hb'⟩
              · clear hi
                refine opIn_at rfl rfl ?_
                gi_wp2
                refine anyIn_cons (l := [2]) (by kernel_rfl) (by simp) ?_
                intro i hi
                obtain rfl : i = 2 := by simpa using hi
                clear hi
                refine opIn_at rfl rfl ?_
                gi_wp2_with fail
                refine ⟨trivial, fun h => (by cases h), (CallsIn.inRound l (callsIn_wide.2 HC.out)).mono ?_⟩
                rintro e V' ⟨rfl, hb'⟩
                have ci2 := (SD.out.below hb').bi.cell
                gi_wp2
                refine anyIn_cons (l := [4]) (by kernel_rfl) (by simp) ?_
                intro i hi
                obtain rfl : i = 4 := by simpa using hi
                clear hi
                refine opIn_at rfl rfl ?_
                gi_wp2
                exact anyIn_end (by kernel_rfl) ⟨rfl, rfl, hb'⟩
            · clear hi
              refine opIn_at rfl rfl ?_
              gi_wp2
              refine anyIn_cons (l := [0]) (by kernel_rfl) (by simp) ?_
              intro i hi
              obtain rfl : i = 0 := by simpa using hi
              clear hi
              refine opIn_at rfl rfl ?_
              gi_wp2
              refine anyIn_cons (l := [2]) (by kernel_rfl) (by simp) ?_
              intro i hi
              obtain rfl : i = 2 := by simpa using hi
              clear hi
              refine opIn_at rfl rfl ?_
              gi_wp2_with fail
              refine ⟨trivial, fun h => (by cases h), (CallsIn.inRound l (callsIn_wide.2 HC.out)).mono ?_⟩
              rintro e V' ⟨rfl, hb'⟩
              have ci2 := (SD.out.below hb').bi.cell
              gi_wp2
              refine anyIn_cons (l := [4]) (by kernel_rfl) (by simp) ?_
              intro i hi
              obtain rfl : i = 4 := by simpa using hi
              clear hi
              refine opIn_at rfl rfl ?_
              gi_wp2
              exact anyIn_end (by kernel_rfl) ⟨rfl, rfl, hb'⟩
          · clear hi
            refine opIn_at rfl rfl ?_
            gi_wp2
            refine anyIn_cons (l := [0, 1]) (by kernel_rfl) (by simp) ?_
            intro i hi
            obtain rfl | rfl : i = 0 ∨ i = 1 := by simpa using hi
            · clear hi
              refine opIn_at rfl rfl ?_
              gi_wp2
              refine anyIn_cons (l := [1]) (by kernel_rfl) (by simp) ?_
              intro i hi
              obtain rfl : i = 1 := by simpa using hi
              clear hi
              refine opIn_at rfl rfl ?_
              gi_wp2
              refine anyIn_cons (l := [2]) (by kernel_rfl) (by simp) ?_
              intro i hi
              obtain rfl : i = 2 := by simpa using hi
              clear hi
              refine opIn_at rfl rfl ?_
              gi_wp2_with fail
              refine ⟨trivial, fun h => (by cases h), (CallsIn.inRound l (callsIn_wide.2 HC.out)).mono ?_⟩
              rintro e V' ⟨rfl, hb'⟩
              have ci2 := (SD.out.below hb').bi.cell
              gi_wp2
              refine anyIn_cons (l := [4]) (by kernel_rfl) (by simp) ?_
              intro i hi
              obtain rfl : i = 4 := by simpa using hi
              clear hi
              refine opIn_at rfl rfl ?_
              gi_wp2
              exact anyIn_end (by kernel_rfl) ⟨rfl, rfl, hb'⟩
            · clear hi
              refine opIn_at rfl rfl ?_
              gi_wp2
              refine anyIn_cons (l := [0]) (by kernel_rfl) (by simp) ?_
              intro i hi
              obtain rfl : i = 0 := by simpa using hi
              clear hi
              refine opIn_at rfl rfl ?_
              gi_wp2
              refine anyIn_cons (l := [2]) (by kernel_rfl) (by simp) ?_
              intro i hi
              obtain rfl : i = 2 := by simpa using hi
              clear hi
              refine opIn_at rfl rfl ?_
              gi_wp2_with fail
              refine ⟨trivial, fun h => (by cases h), (CallsIn.inRound l (callsIn_wide.2 HC.out)).mono ?_⟩
              rintro e V' ⟨rfl, hb'⟩
              have ci2 := (SD.out.below hb').bi.cell
              gi_wp2
              refine anyIn_cons (l := [4]) (by kernel_rfl) (by simp) ?_
              intro i hi
              obtain rfl : i = 4 := by simpa using hi
              clear hi
              refine opIn_at rfl rfl ?_
              gi_wp2
              exact anyIn_end (by kernel_rfl) ⟨rfl, rfl, hb'⟩
        · rintro e a2 w2 ⟨rfl, rfl, hb2⟩
          have HW := Lib.hid (show Below W.heap.size W w2 from BD.out.trans (hb2.mono BD.out.size))
          have S2 := Lib.hid (SD.out.below hb2)
          have sz := SW.out.sz
          clear hb2 cg ci w0 w1 hWd eg
          gi_wp2
          exact ⟨(keeps_below HW.out).from _, Kt.of_below HW.out sz, v, by rw [HBEL.out]; exact S2.out⟩
      | true =>
        gi_wp2_with fail
        refine wpIn_mono (Q := fun e a2 w2 => e = .normal ∧ a2 = { tmps := #[.slice A1 a.length cap1, .slice A2 b.length cap2, .func (.func g) #[] #[], undef, undef, .pointer (some ⟨w.heap.size, 0, none⟩), .slice none 0 0, .int .i64 0, .int .i64 0, .pointer (some ⟨V.heap.size, 0, none⟩), .pointer (some ⟨V.heap.size + 1, 0, none⟩), .pointer (some ⟨V.heap.size + 1 + 1, 0, none⟩), .int .i64 t, .pointer (some ⟨By, 0, none⟩), .slice A1 a.length cap1, .slice A2 b.length cap2, .slice (some ⟨w.heap.size + 1, 0, none⟩) 2 2, .int .i64 0, .int .i64 0, .bool false, undef, .slice A1 a.length cap1, .slice A2 b.length cap2, .func (.func 61) #[] #[.pointer (some ⟨V.heap.size + 1 + 1 + 1, 0, none⟩), .pointer (some ⟨V.heap.size + 1 + 1 + 1 + 1, 0, none⟩)], .int .i64 t, .agg #[.bool p, .bool q], .func (.func g) #[] #[], .agg #[.bool p, .bool q], .bool false, .bool true, .bool false, undef, undef, undef, undef, undef, undef, undef, undef, undef, undef, undef, undef], defers := [] } ∧ Below Wd.heap.size Wd w2) ?_ ?_
        · refine wpIn_region_any (by kernel_rfl) ?_
          rw [hWd]
          refine anyIn_cons (l := [0, 1, 3]) (by kernel_rfl) (by simp) ?_
          intro i hi
          obtain rfl | rfl | rfl : i = 0 ∨ i = 1 ∨ i = 3 := by simpa using hi
          · clear hi
            refine opIn_at rfl rfl ?_
            gi_wp2
            refine anyIn_cons (l := [1, 3]) (by kernel_rfl) (by simp) ?_
            intro i hi
            obtain rfl | rfl : i = 1 ∨ i = 3 := by simpa using hi
            · clear hi
              refine opIn_at rfl rfl ?_
              gi_wp2
              refine anyIn_cons (l := [2, 3]) (by kernel_rfl) (by simp) ?_
              intro i hi
              obtain rfl | rfl : i = 2 ∨ i = 3 := by simpa using hi
              · clear hi
                refine opIn_at rfl rfl ?_
                gi_wp2_with fail
                refine ⟨trivial, fun h => (by cases h), (CallsIn.inRound l (callsIn_wide.2 HC.out)).mono ?_⟩
                rintro e V' ⟨rfl, hb'⟩
                have ci2 := (SD.out.below hb').bi.cell
                gi_wp2
                refine anyIn_cons (l := [3]) (by kernel_rfl) (by simp) ?_
                intro i hi
                obtain rfl : i = 3 := by simpa using hi
                clear hi
                refine opIn_at rfl rfl ?_
                gi_wp2
                refine anyIn_cons (l := [4]) (by kernel_rfl) (by simp) ?_
                intro i hi
                obtain rfl : i = 4 := by simpa using hi
                clear hi
                refine opIn_at rfl rfl ?_
                gi_wp2
                exact anyIn_end (by kernel_rfl) ⟨rfl, rfl, hb'⟩
              · clear hi
                refine opIn_at rfl rfl ?_
                gi_wp2
                refine anyIn_cons (l := [2]) (by kernel_rfl) (by simp) ?_
                intro i hi
                obtain rfl : i = 2 := by simpa using hi
                clear hi
                refine opIn_at rfl rfl ?_
                gi_wp2_with fail
                refine ⟨trivial, fun h => (by cases h), (CallsIn.inRound l (callsIn_wide.2 HC.out)).mono ?_⟩
                rintro e V' ⟨rfl, hb'⟩
                have ci2 := (SD.out.below hb').bi.cell
                gi_wp2
                refine anyIn_cons (l := [4]) (by kernel_rfl) (by simp) ?_
                intro i hi
                obtain rfl : i = 4 := by simpa using hi
                clear hi
                refine opIn_at rfl rfl ?_
                gi_wp2
                exact anyIn_end (by kernel_rfl) ⟨rfl, rfl, hb'⟩
            · clear hi
              refine opIn_at rfl rfl ?_
              gi_wp2
              refine anyIn_cons (l := [1]) (by kernel_rfl) (by simp) ?_
              intro i hi
              obtain rfl : i = 1 := by simpa using hi
              clear hi
              refine opIn_at rfl rfl ?_
              gi_wp2
              refine anyIn_cons (l := [2]) (by kernel_rfl) (by simp) ?_
              intro i hi
              obtain rfl : i = 2 := by simpa using hi
              clear hi
              refine opIn_at rfl rfl ?_
              gi_wp2_with fail
              refine ⟨trivial, fun h => (by cases h), (CallsIn.inRound l (callsIn_wide.2 HC.out)).mono ?_⟩
              rintro e V' ⟨rfl, hb'⟩
              have ci2 := (SD.out.below hb').bi.cell
              gi_wp2
              refine anyIn_cons (l := [4]) (by kernel_rfl) (by simp) ?_
              intro i hi
              obtain rfl : i = 4 := by simpa using hi
              clear hi
              refine opIn_at rfl rfl ?_
              gi_wp2
              exact anyIn_end (by kernel_rfl) ⟨rfl, rfl, hb'⟩
          · clear hi
            refine opIn_at rfl rfl ?_
            gi_wp2
            refine anyIn_cons (l := [0, 3]) (by kernel_rfl) (by simp) ?_
            intro i hi
            obtain rfl | rfl : i = 0 ∨ i = 3 := by simpa using hi
            · clear hi
              refine opIn_at rfl rfl ?_
              gi_wp2
              refine anyIn_cons (l := [2, 3]) (by kernel_rfl) (by simp) ?_
              intro i hi
              obtain rfl | rfl : i = 2 ∨ i = 3 := by simpa using hi
              · clear hi
                refine opIn_at rfl rfl ?_
                gi_wp2_with fail
                refine ⟨trivial, fun h => (by cases h), (CallsIn.inRound l (callsIn_wide.2 HC.out)).mono ?_⟩
                rintro e V' ⟨rfl, hb'⟩
                have ci2 := (SD.out.below hb').bi.cell
                gi_wp2
                refine anyIn_cons (l := [3]) (by kernel_rfl) (by simp) ?_
                intro i hi
                obtain rfl : i = 3 := by simpa using hi
                clear hi
                refine opIn_at rfl rfl ?_
                gi_wp2
                refine anyIn_cons (l := [4]) (by kernel_rfl) (by simp) ?_
                intro i hi
                obtain rfl : i = 4 := by simpa using hi
                clear hi
                refine opIn_at rfl rfl ?_
                gi_wp2
                exact anyIn_end (by kernel_rfl) ⟨rfl, rfl, hb'⟩
              · clear hi
                refine opIn_at rfl rfl ?_
                gi_wp2
                refine anyIn_cons (l := [2]) (by kernel_rfl) (by simp) ?_
                intro i hi
                obtain rfl : i = 2 := by simpa using hi
                clear hi
                refine opIn_at rfl rfl ?_
                gi_wp2_with fail
                refine ⟨trivial, fun h => (by cases h), (CallsIn.inRound l (callsIn_wide.2 HC.out)).mono ?_⟩
                rintro e V' ⟨rfl, hb'⟩
                have ci2 := (SD.out.below hb').bi.cell
                gi_wp2
                refine anyIn_cons (l := [4]) (by kernel_rfl) (by simp) ?_
                intro i hi
                obtain rfl : i = 4 := by simpa using hi
                clear hi
                refine opIn_at rfl rfl ?_
                gi_wp2
                exact anyIn_end (by kernel_rfl) ⟨rfl, rfl, hb'⟩
            · clear hi
              refine opIn_at rfl rfl ?_
              gi_wp2
              refine anyIn_cons (l := [0]) (by kernel_rfl) (by simp) ?_
              intro i hi
              obtain rfl : i = 0 := by simpa using hi
              clear hi
              refine opIn_at rfl rfl ?_
              gi_wp2
              refine anyIn_cons (l := [2]) (by kernel_rfl) (by simp) ?_
              intro i hi
              obtain rfl : i = 2 := by simpa using hi
              clear hi
              refine opIn_at rfl rfl ?_
              gi_wp2_with fail
              refine ⟨trivial, fun h => (by cases h), (CallsIn.inRound l (callsIn_wide.2 HC.out)).mono ?_⟩
              rintro e V' ⟨rfl, hb'⟩
              have ci2 := (SD.out.below hb').bi.cell
              gi_wp2
              refine anyIn_cons (l := [4]) (by kernel_rfl) (by simp) ?_
              intro i hi
              obtain rfl : i = 4 := by simpa using hi
              clear hi
              refine opIn_at rfl rfl ?_
              gi_wp2
              exact anyIn_end (by kernel_rfl) ⟨rfl, rfl, hb'⟩
          · clear hi
            refine opIn_at rfl rfl ?_
            gi_wp2
            refine anyIn_cons (l := [0, 1]) (by kernel_rfl) (by simp) ?_
            intro i hi
            obtain rfl | rfl : i = 0 ∨ i = 1 := by simpa using hi
            · clear hi
              refine opIn_at rfl rfl ?_
              gi_wp2
              refine anyIn_cons (l := [1]) (by kernel_rfl) (by simp) ?_
              intro i hi
              obtain rfl : i = 1 := by simpa using hi
              clear hi
              refine opIn_at rfl rfl ?_
              gi_wp2
              refine anyIn_cons (l := [2]) (by kernel_rfl) (by simp) ?_
              intro i hi
              obtain rfl : i = 2 := by simpa using hi
              clear hi
              refine opIn_at rfl rfl ?_
              gi_wp2_with fail
              refine ⟨trivial, fun h => (by cases h), (CallsIn.inRound l (callsIn_wide.2 HC.out)).mono ?_⟩
              rintro e V' ⟨rfl, hb'⟩
              have ci2 := (SD.out.below hb').bi.cell
              gi_wp2
              refine anyIn_cons (l := [4]) (by kernel_rfl) (by simp) ?_
              intro i hi
              obtain rfl : i = 4 := by simpa using hi
              clear hi
              refine opIn_at rfl rfl ?_
              gi_wp2
              exact anyIn_end (by kernel_rfl) ⟨rfl, rfl, hb'⟩
            · clear hi
              refine opIn_at rfl rfl ?_
              gi_wp2
              refine anyIn_cons (l := [0]) (by kernel_rfl) (by simp) ?_
              intro i hi
              obtain rfl : i = 0 := by simpa using hi
              clear hi
              refine opIn_at rfl rfl ?_
              gi_wp2
              refine anyIn_cons (l := [2]) (by kernel_rfl) (by simp) ?_
              intro i hi
              obtain rfl : i = 2 := by simpa using hi
              clear hi
              refine opIn_at rfl rfl ?_
              gi_wp2_with fail
              refine ⟨trivial, fun h => (by cases h), (CallsIn.inRound l (callsIn_wide.2 HC.out)).mono ?_⟩
              rintro e V' ⟨rfl, hb'⟩
              have ci2 := (SD.out.below hb').bi.cell
              gi_wp2
              refine anyIn_cons (l := [4]) (by kernel_rfl) (by simp) ?_
              intro i hi
              obtain rfl : i = 4 := by simpa using hi
              clear hi
              refine opIn_at rfl rfl ?_
              gi_wp2
              exact anyIn_end (by kernel_rfl) ⟨rfl, rfl, hb'⟩
        · rintro e a2 w2 ⟨rfl, rfl, hb2⟩
          have HW := Lib.hid (show Below W.heap.size W w2 from BD.out.trans (hb2.mono BD.out.size))
          have S2 := Lib.hid (SD.out.below hb2)
          have sz := SW.out.sz
          clear hb2 cg ci w0 w1 hWd eg
          have ci := S2.out.bi.cell
          have cv := S2.out.bv.cell
          have cf := S2.out.bf.cell
          have sz2 := S2.out.sz
          obtain ⟨t', ht'⟩ : ∃ t', IntKind.i64.wrap (t - 1) = t' := ⟨_, rfl⟩
          have HT := Lib.hid ht'
          gi_wp2_with (gi_at_builtin; refine wpListIn_append_own _ rfl _ _ 22 rfl W0.heap.size 27 i0 (.agg #[.int .i64 0, .int .i64 0]) 2 16 Try.underlying22 hi hz0 hz1 hz2 rfl (by decide) _ so.length (so.flatMap encS) rfl (S2.out.rv.alloc _) ⟨w2.heap.size, 0, none⟩ 1 1 [.int .i64 sf, .int .i64 t'] rfl rfl (cells_new _ _ rfl [.int .i64 sf, .int .i64 t'] _) (by simp [Value.oneCell']) (by simp [maxLen]; omega) (by omega) (by simp; omega) ?_; intro v' w1 hown' hgrow _; obtain ⟨g', cap', rfl⟩ := ownsRow_succ hown'; have hq := Lib.hid (S2.out.append (x := (sf, t')) (by omega) (by omega) hown' hgrow); have k4 := hq.out.2.2.2.1; have k5 := hq.out.2.2.2.2; have c4 := hq.out.1.bi.cell; have f4 := hq.out.1.bi.frozen; have b5 := Lib.hid (hq.out.1.bf.other (by omega : V.heap.size + 1 + 1 ≠ V.heap.size + 1) (.bool false)); have c5 := b5.out.cell; have f5 := b5.out.frozen)
          have Q := Lib.hid (hq.out.1.set (by omega) (by omega) false t)
          exact ⟨(((keeps_below HW.out).trans hq.out.2.1).trans Q.out.2.1).from _, ((Kt.of_below HW.out sz).trans hq.out.2.2.1).trans Q.out.2.2, _, by rw [HBEL.out]; simp only [Bk.stepW, HT.out]; exact Q.out.1⟩
    | true =>
      cases si with
      | false =>
        gi_wp2_with fail
        refine wpIn_mono (Q := fun e a2 w2 => e = .normal ∧ a2 = { tmps := #[.slice A1 a.length cap1, .slice A2 b.length cap2, .func (.func g) #[] #[], undef, undef, .pointer (some ⟨w.heap.size, 0, none⟩), .slice none 0 0, .int .i64 0, .int .i64 0, .pointer (some ⟨V.heap.size, 0, none⟩), .pointer (some ⟨V.heap.size + 1, 0, none⟩), .pointer (some ⟨V.heap.size + 1 + 1, 0, none⟩), .int .i64 t, .pointer (some ⟨By, 0, none⟩), .slice A1 a.length cap1, .slice A2 b.length cap2, .slice (some ⟨w.heap.size + 1, 0, none⟩) 2 2, .int .i64 0, .int .i64 0, .bool false, undef, .slice A1 a.length cap1, .slice A2 b.length cap2, .func (.func 61) #[] #[.pointer (some ⟨V.heap.size + 1 + 1 + 1, 0, none⟩), .pointer (some ⟨V.heap.size + 1 + 1 + 1 + 1, 0, none⟩)], .int .i64 t, .agg #[.bool p, .bool q], .func (.func g) #[] #[], .agg #[.bool p, .bool q], .bool true, .bool false, .bool false, undef, undef, undef, undef, undef, undef, undef, undef, undef, undef, undef, undef], defers := [] } ∧ Below Wd.heap.size Wd w2) ?_ ?_
        · refine wpIn_region_any (by kernel_rfl) ?_
          rw [hWd]
          refine anyIn_cons (l := [0, 1, 3]) (by kernel_rfl) (by simp) ?_
          intro i hi
          obtain rfl | rfl | rfl : i = 0 ∨ i = 1 ∨ i = 3 := by simpa using hi
          · clear hi
            refine opIn_at rfl rfl ?_
            gi_wp2
            refine anyIn_cons (l := [1, 3]) (by kernel_rfl) (by simp) ?_
            intro i hi
            obtain rfl | rfl : i = 1 ∨ i = 3 := by simpa using hi
            · clear hi
              refine opIn_at rfl rfl ?_
              gi_wp2
              refine anyIn_cons (l := [2, 3]) (by kernel_rfl) (by simp) ?_
              intro i hi
              obtain rfl | rfl : i = 2 ∨ i = 3 := by simpa using hi
              · clear hi
                refine opIn_at rfl rfl ?_
                gi_wp2_with fail
                refine ⟨trivial, fun h => (by cases h), (CallsIn.inRound l (callsIn_wide.2 HC.out)).mono ?_⟩
                rintro e V' ⟨rfl, hb'⟩
                have ci2 := (SD.out.below hb').bi.cell
                gi_wp2
                refine anyIn_cons (l := [3]) (by kernel_rfl) (by simp) ?_
                intro i hi
                obtain rfl : i = 3 := by simpa using hi
                clear hi
                refine opIn_at rfl rfl ?_
                gi_wp2
                refine anyIn_cons (l := [4]) (by kernel_rfl) (by simp) ?_
                intro i hi
                obtain rfl : i = 4 := by simpa using hi
                clear hi
                refine opIn_at rfl rfl ?_
                gi_wp2
                exact anyIn_end (by kernel_rfl) ⟨rfl, rfl, hb'⟩
              · clear hi
                refine opIn_at rfl rfl ?_
                gi_wp2
                refine anyIn_cons (l := [2]) (by kernel_rfl) (by simp) ?_
                intro i hi
                obtain rfl : i = 2 := by simpa using hi
                clear hi
                refine opIn_at rfl rfl ?_
                gi_wp2_with fail
                refine ⟨trivial, fun h => (by cases h), (CallsIn.inRound l (callsIn_wide.2 HC.out)).mono ?_⟩
                rintro e V' ⟨rfl, hb'⟩
                have ci2 := (SD.out.below hb').bi.cell
                gi_wp2
                refine anyIn_cons (l := [4]) (by kernel_rfl) (by simp) ?_
                intro i hi
                obtain rfl : i = 4 := by simpa using hi
                clear hi
                refine opIn_at rfl rfl ?_
                gi_wp2
                exact anyIn_end (by kernel_rfl) ⟨rfl, rfl, hb'⟩
            · clear hi
              refine opIn_at rfl rfl ?_
              gi_wp2
              refine anyIn_cons (l := [1]) (by kernel_rfl) (by simp) ?_
              intro i hi
              obtain rfl : i = 1 := by simpa using hi
              clear hi
              refine opIn_at rfl rfl ?_
              gi_wp2
              refine anyIn_cons (l := [2]) (by kernel_rfl) (by simp) ?_
              intro i hi
              obtain rfl : i = 2 := by simpa using hi
              clear hi
              refine opIn_at rfl rfl ?_
              gi_wp2_with fail
              refine ⟨trivial, fun h => (by cases h), (CallsIn.inRound l (callsIn_wide.2 HC.out)).mono ?_⟩
              rintro e V' ⟨rfl, hb'⟩
              have ci2 := (SD.out.below hb').bi.cell
              gi_wp2
              refine anyIn_cons (l := [4]) (by kernel_rfl) (by simp) ?_
              intro i hi
              obtain rfl : i = 4 := by simpa using hi
              clear hi
              refine opIn_at rfl rfl ?_
              gi_wp2
              exact anyIn_end (by kernel_rfl) ⟨rfl, rfl, hb'⟩
          · clear hi
            refine opIn_at rfl rfl ?_
            gi_wp2
            refine anyIn_cons (l := [0, 3]) (by kernel_rfl) (by simp) ?_
            intro i hi
            obtain rfl | rfl : i = 0 ∨ i = 3 := by simpa using hi
            · clear hi
              refine opIn_at rfl rfl ?_
              gi_wp2
              refine anyIn_cons (l := [2, 3]) (by kernel_rfl) (by simp) ?_
              intro i hi
              obtain rfl | rfl : i = 2 ∨ i = 3 := by simpa using hi
              · clear hi
                refine opIn_at rfl rfl ?_
                gi_wp2_with fail
                refine ⟨trivial, fun h => (by cases h), (CallsIn.inRound l (callsIn_wide.2 HC.out)).mono ?_⟩
                rintro e V' ⟨rfl, hb'⟩
                have ci2 := (SD.out.below hb').bi.cell
                gi_wp2
                refine anyIn_cons (l := [3]) (by kernel_rfl) (by simp) ?_
                intro i hi
                obtain rfl : i = 3 := by simpa using hi
                clear hi
                refine opIn_at rfl rfl ?_
                gi_wp2
                refine anyIn_cons (l := [4]) (by kernel_rfl) (by simp) ?_
                intro i hi
                obtain rfl : i = 4 := by simpa using hi
                clear hi
                refine opIn_at rfl rfl ?_
                gi_wp2
                exact anyIn_end (by kernel_rfl) ⟨rfl, rfl, hb'⟩
              · clear hi
                refine opIn_at rfl rfl ?_
                gi_wp2
                refine anyIn_cons (l := [2]) (by kernel_rfl) (by simp) ?_
                intro i hi
                obtain rfl : i = 2 := by simpa using hi
                clear hi
                refine opIn_at rfl rfl ?_
                gi_wp2_with fail
                refine ⟨trivial, fun h => (by cases h), (CallsIn.inRound l (callsIn_wide.2 HC.out)).mono ?_⟩
                rintro e V' ⟨rfl, hb'⟩
                have ci2 := (SD.out.below hb').bi.cell
                gi_wp2
                refine anyIn_cons (l := [4]) (by kernel_rfl) (by simp) ?_
                intro i hi
                obtain rfl : i = 4 := by simpa using hi
                clear hi
                refine opIn_at rfl rfl ?_
                gi_wp2
                exact anyIn_end (by kernel_rfl) ⟨rfl, rfl, hb'⟩
            · clear hi
              refine opIn_at rfl rfl ?_
              gi_wp2
              refine anyIn_cons (l := [0]) (by kernel_rfl) (by simp) ?_
              intro i hi
              obtain rfl : i = 0 := by simpa using hi
              clear hi
              refine opIn_at rfl rfl ?_
              gi_wp2
              refine anyIn_cons (l := [2]) (by kernel_rfl) (by simp) ?_
              intro i hi
              obtain rfl : i = 2 := by simpa using hi
              clear hi
              refine opIn_at rfl rfl ?_
              gi_wp2_with fail
              refine ⟨trivial, fun h => (by cases h), (CallsIn.inRound l (callsIn_wide.2 HC.out)).mono ?_⟩
              rintro e V' ⟨rfl, hb'⟩
              have ci2 := (SD.out.below hb').bi.cell
              gi_wp2
              refine anyIn_cons (l := [4]) (by kernel_rfl) (by simp) ?_
              intro i hi
              obtain rfl : i = 4 := by simpa using hi
              clear hi
              refine opIn_at rfl rfl ?_
              gi_wp2
              exact anyIn_end (by kernel_rfl) ⟨rfl, rfl, hb'⟩
          · clear hi
            refine opIn_at rfl rfl ?_
            gi_wp2
            refine anyIn_cons (l := [0, 1]) (by kernel_rfl) (by simp) ?_
            intro i hi
            obtain rfl | rfl : i = 0 ∨ i = 1 := by simpa using hi
            · clear hi
              refine opIn_at rfl rfl ?_
              gi_wp2
              refine anyIn_cons (l := [1]) (by kernel_rfl) (by simp) ?_
              intro i hi
              obtain rfl : i = 1 := by simpa using hi
              clear hi
              refine opIn_at rfl rfl ?_
              gi_wp2
              refine anyIn_cons (l := [2]) (by kernel_rfl) (by simp) ?_
              intro i hi
              obtain rfl : i = 2 := by simpa using hi
              clear hi
              refine opIn_at rfl rfl ?_
              gi_wp2_with fail
              refine ⟨trivial, fun h => (by cases h), (CallsIn.inRound l (callsIn_wide.2 HC.out)).mono ?_⟩
              rintro e V' ⟨rfl, hb'⟩
              have ci2 := (SD.out.below hb').bi.cell
              gi_wp2
              refine anyIn_cons (l := [4]) (by kernel_rfl) (by simp) ?_
              intro i hi
              obtain rfl : i = 4 := by simpa using hi
              clear hi
              refine opIn_at rfl rfl ?_
              gi_wp2
              exact anyIn_end (by kernel_rfl) ⟨rfl, rfl, hb'⟩
            · clear hi
              refine opIn_at rfl rfl ?_
              gi_wp2
              refine anyIn_cons (l := [0]) (by kernel_rfl) (by simp) ?_
              intro i hi
              obtain rfl : i = 0 := by simpa using hi
              clear hi
              refine opIn_at rfl rfl ?_
              gi_wp2
              refine anyIn_cons (l := [2]) (by kernel_rfl) (by simp) ?_
              intro i hi
              obtain rfl : i = 2 := by simpa using hi
              clear hi
              refine opIn_at rfl rfl ?_
              gi_wp2_with fail
              refine ⟨trivial, fun h => (by cases h), (CallsIn.inRound l (callsIn_wide.2 HC.out)).mono ?_⟩
              rintro e V' ⟨rfl, hb'⟩
              have ci2 := (SD.out.below hb').bi.cell
              gi_wp2
              refine anyIn_cons (l := [4]) (by kernel_rfl) (by simp) ?_
              intro i hi
              obtain rfl : i = 4 := by simpa using hi
              clear hi
              refine opIn_at rfl rfl ?_
              gi_wp2
              exact anyIn_end (by kernel_rfl) ⟨rfl, rfl, hb'⟩
        · rintro e a2 w2 ⟨rfl, rfl, hb2⟩
          have HW := Lib.hid (show Below W.heap.size W w2 from BD.out.trans (hb2.mono BD.out.size))
          have S2 := Lib.hid (SD.out.below hb2)
          have sz := SW.out.sz
          clear hb2 cg ci w0 w1 hWd eg
          have ci := S2.out.bi.cell
          have fi := S2.out.bi.frozen
          have b3 := S2.out.bf.other (by omega : V.heap.size + 1 + 1 ≠ V.heap.size + 1) (.bool true)
          have cf := b3.cell
          have ff := b3.frozen
          have Q := Lib.hid (S2.out.set (by omega) (by omega) true t)
          clear b3
          gi_wp2
          exact ⟨((keeps_below HW.out).trans Q.out.2.1).from _, (Kt.of_below HW.out sz).trans Q.out.2.2, v, by rw [HBEL.out]; exact Q.out.1⟩
      | true =>
        gi_wp2_with fail
        refine wpIn_mono (Q := fun e a2 w2 => e = .normal ∧ a2 = { tmps := #[.slice A1 a.length cap1, .slice A2 b.length cap2, .func (.func g) #[] #[], undef, undef, .pointer (some ⟨w.heap.size, 0, none⟩), .slice none 0 0, .int .i64 0, .int .i64 0, .pointer (some ⟨V.heap.size, 0, none⟩), .pointer (some ⟨V.heap.size + 1, 0, none⟩), .pointer (some ⟨V.heap.size + 1 + 1, 0, none⟩), .int .i64 t, .pointer (some ⟨By, 0, none⟩), .slice A1 a.length cap1, .slice A2 b.length cap2, .slice (some ⟨w.heap.size + 1, 0, none⟩) 2 2, .int .i64 0, .int .i64 0, .bool false, undef, .slice A1 a.length cap1, .slice A2 b.length cap2, .func (.func 61) #[] #[.pointer (some ⟨V.heap.size + 1 + 1 + 1, 0, none⟩), .pointer (some ⟨V.heap.size + 1 + 1 + 1 + 1, 0, none⟩)], .int .i64 t, .agg #[.bool p, .bool q], .func (.func g) #[] #[], .agg #[.bool p, .bool q], .bool true, .bool true, .bool true, undef, undef, undef, undef, undef, undef, undef, undef, undef, undef, undef, undef], defers := [] } ∧ Below Wd.heap.size Wd w2) ?_ ?_
        · refine wpIn_region_any (by kernel_rfl) ?_
          rw [hWd]
          refine anyIn_cons (l := [0, 1, 3]) (by kernel_rfl) (by simp) ?_
          intro i hi
          obtain rfl | rfl | rfl : i = 0 ∨ i = 1 ∨ i = 3 := by simpa using hi
          · clear hi
            refine opIn_at rfl rfl ?_
            gi_wp2
            refine anyIn_cons (l := [1, 3]) (by kernel_rfl) (by simp) ?_
            intro i hi
            obtain rfl | rfl : i = 1 ∨ i = 3 := by simpa using hi
            · clear hi
              refine opIn_at rfl rfl ?_
              gi_wp2
              refine anyIn_cons (l := [2, 3]) (by kernel_rfl) (by simp) ?_
              intro i hi
              obtain rfl | rfl : i = 2 ∨ i = 3 := by simpa using hi
              · clear hi
                refine opIn_at rfl rfl ?_
                gi_wp2_with fail
                refine ⟨trivial, fun h => (by cases h), (CallsIn.inRound l (callsIn_wide.2 HC.out)).mono ?_⟩
                rintro e V' ⟨rfl, hb'⟩
                have ci2 := (SD.out.below hb').bi.cell
                gi_wp2
                refine anyIn_cons (l := [3]) (by kernel_rfl) (by simp) ?_
                intro i hi
                obtain rfl : i = 3 := by simpa using hi
                clear hi
                refine opIn_at rfl rfl ?_
                gi_wp2
                refine anyIn_cons (l := [4]) (by kernel_rfl) (by simp) ?_
                intro i hi
                obtain rfl : i = 4 := by simpa using hi
                clear hi
                refine opIn_at rfl rfl ?_
                gi_wp2
                exact anyIn_end (by kernel_rfl) ⟨rfl, rfl, hb'⟩
              · clear hi
                refine opIn_at rfl rfl ?_
                gi_wp2
                refine anyIn_cons (l := [2]) (by kernel_rfl) (by simp) ?_
                intro i hi
                obtain rfl : i = 2 := by simpa using hi
                clear hi
                refine opIn_at rfl rfl ?_
                gi_wp2_with fail
                refine ⟨trivial, fun h => (by cases h), (CallsIn.inRound l (callsIn_wide.2 HC.out)).mono ?_⟩
                rintro e V' ⟨rfl, hb'⟩
                have ci2 := (SD.out.below hb').bi.cell
                gi_wp2
                refine anyIn_cons (l := [4]) (by kernel_rfl) (by simp) ?_
                intro i hi
                obtain rfl : i = 4 := by simpa using hi
                clear hi
                refine opIn_at rfl rfl ?_
                gi_wp2
                exact anyIn_end (by kernel_rfl) ⟨rfl, rfl, hb'⟩
            · clear hi
              refine opIn_at rfl rfl ?_
              gi_wp2
              refine anyIn_cons (l := [1]) (by kernel_rfl) (by simp) ?_
              intro i hi
              obtain rfl : i = 1 := by simpa using hi
              clear hi
              refine opIn_at rfl rfl ?_
              gi_wp2
              refine anyIn_cons (l := [2]) (by kernel_rfl) (by simp) ?_
              intro i hi
              obtain rfl : i = 2 := by simpa using hi
              clear hi
              refine opIn_at rfl rfl ?_
              gi_wp2_with fail
              refine ⟨trivial, fun h => (by cases h), (CallsIn.inRound l (callsIn_wide.2 HC.out)).mono ?_⟩
              rintro e V' ⟨rfl, hb'⟩
              have ci2 := (SD.out.below hb').bi.cell
              gi_wp2
              refine anyIn_cons (l := [4]) (by kernel_rfl) (by simp) ?_
              intro i hi
              obtain rfl : i = 4 := by simpa using hi
              clear hi
              refine opIn_at rfl rfl ?_
              gi_wp2
              exact anyIn_end (by kernel_rfl) ⟨rfl, rfl, hb'⟩
          · clear hi
            refine opIn_at rfl rfl ?_
            gi_wp2
            refine anyIn_cons (l := [0, 3]) (by kernel_rfl) (by simp) ?_
            intro i hi
            obtain rfl | rfl : i = 0 ∨ i = 3 := by simpa using hi
            · clear hi
              refine opIn_at rfl rfl ?_
              gi_wp2
              refine anyIn_cons (l := [2, 3]) (by kernel_rfl) (by simp) ?_
              intro i hi
              obtain rfl | rfl : i = 2 ∨ i = 3 := by simpa using hi
              · clear hi
                refine opIn_at rfl rfl ?_
                gi_wp2_with fail
                refine ⟨trivial, fun h => (by cases h), (CallsIn.inRound l (callsIn_wide.2 HC.out)).mono ?_⟩
                rintro e V' ⟨rfl, hb'⟩
                have ci2 := (SD.out.below hb').bi.cell
                gi_wp2
                refine anyIn_cons (l := [3]) (by kernel_rfl) (by simp) ?_
                intro i hi
                obtain rfl : i = 3 := by simpa using hi
                clear hi
                refine opIn_at rfl rfl ?_
                gi_wp2
                refine anyIn_cons (l := [4]) (by kernel_rfl) (by simp) ?_
                intro i hi
                obtain rfl : i = 4 := by simpa using hi
                clear hi
                refine opIn_at rfl rfl ?_
                gi_wp2
                exact anyIn_end (by kernel_rfl) ⟨rfl, rfl, hb'⟩
              · clear hi
                refine opIn_at rfl rfl ?_
                gi_wp2
                refine anyIn_cons (l := [2]) (by kernel_rfl) (by simp) ?_
                intro i hi
                obtain rfl : i = 2 := by simpa using hi
                clear hi
                refine opIn_at rfl rfl ?_
                gi_wp2_with fail
                refine ⟨trivial, fun h => (by cases h), (CallsIn.inRound l (callsIn_wide.2 HC.out)).mono ?_⟩
                rintro e V' ⟨rfl, hb'⟩
                have ci2 := (SD.out.below hb').bi.cell
                gi_wp2
                refine anyIn_cons (l := [4]) (by kernel_rfl) (by simp) ?_
                intro i hi
                obtain rfl : i = 4 := by simpa using hi
                clear hi
                refine opIn_at rfl rfl ?_
                gi_wp2
                exact anyIn_end (by kernel_rfl) ⟨rfl, rfl, hb'⟩
            · clear hi
              refine opIn_at rfl rfl ?_
              gi_wp2
              refine anyIn_cons (l := [0]) (by kernel_rfl) (by simp) ?_
              intro i hi
              obtain rfl : i = 0 := by simpa using hi
              clear hi
              refine opIn_at rfl rfl ?_
              gi_wp2
              refine anyIn_cons (l := [2]) (by kernel_rfl) (by simp) ?_
              intro i hi
              obtain rfl : i = 2 := by simpa using hi
              clear hi
              refine opIn_at rfl rfl ?_
              gi_wp2_with fail
              refine ⟨trivial, fun h => (by cases h), (CallsIn.inRound l (callsIn_wide.2 HC.out)).mono ?_⟩
              rintro e V' ⟨rfl, hb'⟩
              have ci2 := (SD.out.below hb').bi.cell
              gi_wp2
              refine anyIn_cons (l := [4]) (by kernel_rfl) (by simp) ?_
              intro i hi
              obtain rfl : i = 4 := by simpa using hi
              clear hi
              refine opIn_at rfl rfl ?_
              gi_wp2
              exact anyIn_end (by kernel_rfl) ⟨rfl, rfl, hb'⟩
          · clear hi
            refine opIn_at rfl rfl ?_
            gi_wp2
            refine anyIn_cons (l := [0, 1]) (by kernel_rfl) (by simp) ?_
            intro i hi
            obtain rfl | rfl : i = 0 ∨ i = 1 := by simpa using hi
            · clear hi
              refine opIn_at rfl rfl ?_
              gi_wp2
              refine anyIn_cons (l := [1]) (by kernel_rfl) (by simp) ?_
              intro i hi
              obtain rfl : i = 1 := by simpa using hi
              clear hi
              refine opIn_at rfl rfl ?_
              gi_wp2
              refine anyIn_cons (l := [2]) (by kernel_rfl) (by simp) ?_
              intro i hi
              obtain rfl : i = 2 := by simpa using hi
              clear hi
              refine opIn_at rfl rfl ?_
              gi_wp2_with fail
              refine ⟨trivial, fun h => (by cases h), (CallsIn.inRound l (callsIn_wide.2 HC.out)).mono ?_⟩
              rintro e V' ⟨rfl, hb'⟩
              have ci2 := (SD.out.below hb').bi.cell
              gi_wp2
              refine anyIn_cons (l := [4]) (by kernel_rfl) (by simp) ?_
              intro i hi
              obtain rfl : i = 4 := by simpa using hi
              clear hi
              refine opIn_at rfl rfl ?_
              gi_wp2
              exact anyIn_end (by kernel_rfl) ⟨rfl, rfl, hb'⟩
            · clear hi
              refine opIn_at rfl rfl ?_
              gi_wp2
              refine anyIn_cons (l := [0]) (by kernel_rfl) (by simp) ?_
              intro i hi
              obtain rfl : i = 0 := by simpa using hi
              clear hi
              refine opIn_at rfl rfl ?_
              gi_wp2
              refine anyIn_cons (l := [2]) (by kernel_rfl) (by simp) ?_
              intro i hi
              obtain rfl : i = 2 := by simpa using hi
              clear hi
              refine opIn_at rfl rfl ?_
              gi_wp2_with fail
              refine ⟨trivial, fun h => (by cases h), (CallsIn.inRound l (callsIn_wide.2 HC.out)).mono ?_⟩
              rintro e V' ⟨rfl, hb'⟩
              have ci2 := (SD.out.below hb').bi.cell
              gi_wp2
              refine anyIn_cons (l := [4]) (by kernel_rfl) (by simp) ?_
              intro i hi
              obtain rfl : i = 4 := by simpa using hi
              clear hi
              refine opIn_at rfl rfl ?_
              gi_wp2
              exact anyIn_end (by kernel_rfl) ⟨rfl, rfl, hb'⟩
        · rintro e a2 w2 ⟨rfl, rfl, hb2⟩
          have HW := Lib.hid (show Below W.heap.size W w2 from BD.out.trans (hb2.mono BD.out.size))
          have S2 := Lib.hid (SD.out.below hb2)
          have sz := SW.out.sz
          clear hb2 cg ci w0 w1 hWd eg
          gi_wp2
          exact ⟨(keeps_below HW.out).from _, Kt.of_below HW.out sz, v, by rw [HBEL.out]; exact S2.out⟩
  case done =>
    rintro D ys W hD rfl ⟨v, h⟩ hK
    have cv := h.bv.cell
    have RL := Bk.runW_len (Bk.bel k) (Bk.bor a b) ⟨[], false, 0⟩
    have SW := Lib.hid h
    have sz := h.sz
    clear h
    have RE := Bk.runW_is (Bk.bel k) ⟨[], false, 0⟩ (Bk.bor_wrap OA.out.2 OB.out.2)
    rw [RE] at SW RL
    clear RE
    gi_wp2
    refine ⟨by simp, .inl ⟨_, _, rfl, run_takeDeferred hK, ?_⟩⟩
    have rv := ownsRow_putObj (ownsRow_base SW.out.rv (base' := w.heap.size) (by omega)) (.deferred none) hK rfl
    have hb4 := SW.out.be.trans (belowK_b (w := w) (Nat.le_refl _) W D _ (.deferred none) (by omega) hK rfl rfl)
    exact ⟨_, results_tmp2 rfl _ _ _, v, rfl, rv, hb4⟩
  case stop =>
    rintro D c pre W _ _ h _
    exact h.elim
  -- END
end Go.Proofs.Ytodjipbkeddbcaa
