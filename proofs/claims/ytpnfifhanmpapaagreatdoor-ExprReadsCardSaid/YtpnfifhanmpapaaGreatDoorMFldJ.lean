/- A range over a function whose iterator keeps a state of its own in memory, and whose body is never left early: one law. Contracts of has, wrong and numbers of package field. -/
import Derived.Test.YtpnfifhanmpapaaGreatDoorMFldG
import Derived.RangeFuncNested
import Derived.RangeFuncBox
import Derived.OwnWalkIn
import Derived.TacticsInMore
import Derived.LoopNIn
import Derived.LoopIn
/- A range over a function whose iterator keeps a state of its own in memory, and whose body is never left early: one law. -/
namespace Go.Proofs.YtpnfifhanmpapaaGreatDoor
open Go.ChangeShapes Go.WideShapes Go.RowKit Go.Shelf

variable {F : Fence} {n : Nat} {P : Program}

/-- The iterator moves by Mv, a round keeps Kp; I is what the loop's own variables hold between two rounds.
hseq is the iterator's contract, for whatever J its moves keep; Fin says how it ends. -/
theorem range_own {α : Type} {g : Operand} {p : Tmp} {assign body : Code} {Q : Exit → Act → World → Prop} {a : Act} {w : World}
    (hro : F.round = none) (h1 : 1 ≤ n) {gf : Nat} {lb : Array Value} (hg : a.eval g = .func (.func gf) #[] lb) (hFg : F.fn gf) (eg : ∀ args w, (callFunc gf args).run P w = .ok (.enter gf args) w)
    (enc : α → Value) (Mv Kp : World → World → Prop) (Fin : List α → World → Prop) (I : List α → World → Prop)
    (hseq : ∀ (l : Nat) (J : List α → World → Prop) (W : World), Below w.heap.size w W → w.heap.size ≤ l → (∀ pre A B, J pre A → Mv A B → J pre B) →
      (∀ pre x A, J pre A → YieldAt F (n - 1 - 1) P l #[enc x] A fun e B => e = .returned (.bool true) ∧ J (pre ++ [x]) B ∧ Kp A B) → J [] W →
      CallsIn F (n - 1) P gf (#[.func (.yield l) #[] #[]] ++ lb) W fun e B => (∃ v, e = .returned v) ∧ ∃ xs, Fin xs B ∧ J xs B)
    (hMk : ∀ A B (k : Nat) (o : Obj), w.heap.size ≤ k → A.heap[k]? = some o → o.isCells = false → Mv A B → B.heap[k]? = some o)
    (hKr : ∀ A B (k : Nat) (o o' : Obj), w.heap.size ≤ k → B.heap[k]? = some o → o.isCells = false → Kp A B → Kp A (B.putObj k o'))
    (hIM : ∀ pre A B, I pre A → Mv A B → I pre B)
    (hIb : ∀ pre A (k : Nat) (o o' : Obj), w.heap.size ≤ k → A.heap[k]? = some o → o.isCells = false → I pre A → I pre (A.putObj k o'))
    (hIa : ∀ pre A (o : Obj), Below w.heap.size w A → I pre A → I pre (A.alloc o))
    (hFb : ∀ xs A (k : Nat) (o o' : Obj), w.heap.size ≤ k → A.heap[k]? = some o → o.isCells = false → Fin xs A → Fin xs (A.putObj k o'))
    (h0 : I [] w)
    (hround : ∀ (l : Nat) (pre : List α) (x : α) (W : World), w.heap.size ≤ l → (∃ o : Obj, W.heap[l]? = some o ∧ o.isCells = false) → I pre W →
      assign.wpIn (F.inRound l) (n - 1 - 1) P (Exit.then (fun a₁ W₁ => KeepsOthers W W₁ ∧ (∀ o', Kp W (W₁.putObj l o')) ∧ ∀ o', body.wpIn (F.inRound l) (n - 1 - 1) P (fun e _ W' => e = .normal ∧ KeepsOthers (W₁.putObj l o') W' ∧ Kp W W' ∧ I (pre ++ [x]) W') a₁ (W₁.putObj l o')) (fun _ _ _ => False))
        { tmps := a.tmps.setIfInBounds p (enc x), defers := [] } W)
    (hdone : ∀ (D : Nat) (xs : List α) (W : World), w.heap.size ≤ D → Fin xs W → I xs W → W.heap[D]? = some (.deferred (some [])) → Q .normal { a with defers := { target := .collected D, args := #[] } :: a.defers } W) :
    (Code.rangeFunc g #[p] assign body).wpIn F n P Q a w := by
  obtain ⟨D, hD⟩ : ∃ D, D = w.heap.size := ⟨_, rfl⟩
  refine wpIn_rangeFunc fun fn hfn => ?_
  rw [hro]
  have hrun := run_enterLoop_outer (P := P) (w := w) fn a.tmps #[p] assign body
  rw [← hD] at hrun
  obtain ⟨rec, hrec⟩ : ∃ rec : Loop, rec = { state := .ready, pending := none, fn, tmps := a.tmps, params := #[p], assign, body, defers := D } := ⟨_, rfl⟩
  rw [← hrec] at hrun
  have rS : rec.state = .ready := by rw [hrec]
  have rP : rec.pending = none := by rw [hrec]
  have rB : { rec with state := .ready, pending := none } = rec := by rw [hrec]
  have hA : I [] (w.alloc (.deferred (some []))) := hIa _ _ _ (Below.refl _ _) h0
  have bA : Below w.heap.size w (w.alloc (.deferred (some []))) := (Below.refl _ w).alloc (Nat.le_refl _) _
  have bB : Below w.heap.size w ((w.alloc (.deferred (some []))).alloc (.loop rec)) := bA.alloc (by simp) _
  have hB : I [] ((w.alloc (.deferred (some []))).alloc (.loop rec)) := hIa _ _ _ bA hA
  have lB : ((w.alloc (.deferred (some []))).alloc (.loop rec)).heap[D + 1]? = some (.loop rec) := by
    have := World.alloc_heap_new (w.alloc (.deferred (some []))) (.loop rec)
    rw [World.size_alloc] at this
    rw [hD]; exact this
  have dB : ((w.alloc (.deferred (some []))).alloc (.loop rec)).heap[D]? = some (.deferred (some [])) := by
    rw [hD]
    exact (Below.heap_alloc _ _ _ (by simp)).trans (World.alloc_heap_new w _)
  generalize ((w.alloc (.deferred (some []))).alloc (.loop rec)) = W at *
  refine ⟨D + 1, [{ target := .collected D, args := #[] }], W, { target := .fn (.func gf) lb, args := #[.func (.yield (D + 1)) #[] #[]] }, W, gf, #[.func (.yield (D + 1)) #[] #[]] ++ lb, W, hrun, ?_, ?_, ?_, fun _ => h1, ?_⟩
  · simp only [resolve, hg]
    simp [go_sem]
  · intro f' hf'
    simp [Target.leads] at hf'
    subst hf'
    exact hFg
  · simp [invoke, go_sem, eg]
  refine (hseq (D + 1) (fun pre A => I pre A ∧ A.heap[D + 1]? = some (.loop rec) ∧ A.heap[D]? = some (.deferred (some []))) W bB (by omega) ?_ ?_ ⟨hB, lB, dB⟩).mono ?_
  · rintro pre A B ⟨i, l, d⟩ hm
    exact ⟨hIM _ _ _ i hm, hMk _ _ _ _ (by omega) l rfl hm, hMk _ _ _ _ (by omega) d rfl hm⟩
  · -- one round
    rintro pre x A ⟨i, l, d⟩
    have hy := run_yield (P := P) (args := #[enc x]) l (by rw [hrec]; rfl)
    refine ⟨_, _, _, _, hy, ?_⟩
    rw [show rec.fn = fn by rw [hrec], show rec.assign = assign by rw [hrec], show rec.body = body by rw [hrec]]
    have ht : (rec.params.zip #[enc x]).foldl (fun t (p, v) => t.setIfInBounds p v) rec.tmps = a.tmps.setIfInBounds p (enc x) := by
      rw [hrec]
      simp
    rw [ht]
    refine roundIn_of_wpIn hfn (wpIn_mono (hround (D + 1) pre x A (by omega) ⟨_, l, rfl⟩ i) ?_)
    rintro e a₁ A₁ hA₁
    cases e with
    | normal =>
      obtain ⟨ko, kp, hb⟩ := hA₁
      have l1 := ko.same _ _ l rfl
      have d1 := ko.same _ _ d rfl
      refine ⟨_, run_beginRound l1 rS, wpIn_mono (hb _) ?_⟩
      rintro e a₂ A₂ ⟨rfl, ko2, kp2, i2⟩
      have lt : D + 1 < A₁.heap.size := (Array.getElem?_eq_some_iff.1 l1).1
      have l2 := ko2.same _ _ (World.putObj_heap_same (w := A₁) (o := .loop { rec with state := .busy }) lt) rfl
      have d2 := ko2.same _ _ ((World.putObj_heap_other (w := A₁) (o := .loop { rec with state := .busy }) (show D ≠ D + 1 by omega)).trans d1) rfl
      have lt2 : D + 1 < A₂.heap.size := (Array.getElem?_eq_some_iff.1 l2).1
      have he := run_endRound (P := P) none l2
      refine ⟨_, _, he, rfl, ⟨hIb _ _ _ _ _ (by omega) l2 rfl i2, ?_, (World.putObj_heap_other (by omega)).trans d2⟩, hKr _ _ _ _ _ (by omega) l2 rfl kp2⟩
      rw [World.putObj_heap_same lt2]
      simp only [Option.isNone_none, if_true]
      rw [show ({ rec with state := LoopState.ready, pending := none } : Loop) = rec from rB]
    | exit id => exact hA₁.elim
    | goto t => exact hA₁.elim
    | ret => exact hA₁.elim
    | panic c => exact hA₁.elim
    | outgrown => exact hA₁.elim
  · -- behind the iterator
    rintro e B ⟨⟨v, rfl⟩, xs, hf, i, l, d⟩
    have he := run_endLoop (P := P) l (by rw [rS]; simp)
    rw [rP] at he
    exact ⟨none, _, he, hdone D xs _ (by omega) (hFb _ _ _ _ _ (by omega) l rfl hf) (hIb _ _ _ _ _ (by omega) l rfl i) ((World.putObj_heap_other (by omega)).trans d)⟩
end Go.Proofs.YtpnfifhanmpapaaGreatDoor
/- Contracts of has, wrong and numbers of package field. -/
namespace Go.Proofs.YtpnfifhanmpapaaGreatDoor
open Go.ChangeShapes Go.WideShapes Go.RowKit Go.Shelf

/-- a kind's value -/
def spv (K : Fld.Kd) (v : Value) : Value := .agg #[.int .i64 K.lo, .int .i64 K.hi, v, .bool K.week]
theorem has_calls (lo hi v : Nat) (na : Value) (wk b : Bool) (w : World) (h : decide ((lo ≤ v ∧ v ≤ hi) ∨ (wk = true ∧ v = 7)) = b) (hna : ∃ A n c, na = .slice A n c) :
    Calls Tryz.prog 109 #[.agg #[.int .i64 lo, .int .i64 hi, na, .bool wk], .int .i64 v] w fun e w' => e = .returned (.bool b) ∧ Below w.heap.size w w' := by
  obtain ⟨A, n, c, rfl⟩ := hna
  have B0 := Lib.hid (spec_box w lo hi (.slice A n c) wk)
  by_cases h1 : lo ≤ v
  · have t1 : decide ((lo : Int) ≤ v) = true := by simpa using h1
    have t1' : decide (lo ≤ v) = true := by simpa using h1
    by_cases h2 : v ≤ hi
    · have t2 : decide ((v : Int) ≤ hi) = true := by simpa using h2
      have t2' : decide (v ≤ hi) = true := by simpa using h2
      rw [decide_eq_true (.inl ⟨h1, h2⟩)] at h
      subst h
      clear h1 h2
      go_enter Tryz.func109, Tryz.ntmps109
      go_wp2
      go_ret
      exact ⟨rfl, B0.out⟩
    · have t2 : decide ((v : Int) ≤ hi) = false := by simp; omega
      have t2' : decide (v ≤ hi) = false := by simp; omega
      cases wk with
      | true =>
        by_cases h3 : v = 7
        · rw [decide_eq_true (.inr ⟨rfl, h3⟩)] at h
          subst h
          have t3 : ((v : Int) == 7) = true := by rw [beq_iff_eq]; omega
          have t3' : (v == 7) = true := by rw [beq_iff_eq]; omega
          clear h1 h2 h3
          go_enter Tryz.func109, Tryz.ntmps109
          go_wp2
          go_ret
          exact ⟨rfl, B0.out⟩
        · rw [decide_eq_false (by omega)] at h
          subst h
          have t3 : ((v : Int) == 7) = false := by rw [beq_eq_false_iff_ne]; omega
          have t3' : (v == 7) = false := by rw [beq_eq_false_iff_ne]; omega
          clear h1 h2 h3
          go_enter Tryz.func109, Tryz.ntmps109
          go_wp2
          go_ret
          exact ⟨rfl, B0.out⟩
      | false =>
        rw [decide_eq_false (by simp; omega)] at h
        subst h
        clear h1 h2
        go_enter Tryz.func109, Tryz.ntmps109
        go_wp2
        go_ret
        exact ⟨rfl, B0.out⟩
  · have t1 : decide ((lo : Int) ≤ v) = false := by simp; omega
    have t1' : decide (lo ≤ v) = false := by simp; omega
    cases wk with
    | true =>
      by_cases h3 : v = 7
      · rw [decide_eq_true (.inr ⟨rfl, h3⟩)] at h
        subst h
        have t3 : ((v : Int) == 7) = true := by rw [beq_iff_eq]; omega
        have t3' : (v == 7) = true := by rw [beq_iff_eq]; omega
        clear h1 h3
        go_enter Tryz.func109, Tryz.ntmps109
        go_wp2
        go_ret
        exact ⟨rfl, B0.out⟩
      · rw [decide_eq_false (by omega)] at h
        subst h
        have t3 : ((v : Int) == 7) = false := by rw [beq_eq_false_iff_ne]; omega
        have t3' : (v == 7) = false := by rw [beq_eq_false_iff_ne]; omega
        clear h1 h3
        go_enter Tryz.func109, Tryz.ntmps109
        go_wp2
        go_ret
        exact ⟨rfl, B0.out⟩
    | false =>
      rw [decide_eq_false (by simp; omega)] at h
      subst h
      clear h1
      go_enter Tryz.func109, Tryz.ntmps109
      go_wp2
      go_ret
      exact ⟨rfl, B0.out⟩
theorem has_t {K : Fld.Kd} {v : Nat} (na : Value) (w : World) (h : Fld.has K v) (hna : ∃ A n c, na = .slice A n c) :
    Calls Tryz.prog 109 #[.agg #[.int .i64 K.lo, .int .i64 K.hi, na, .bool K.week], .int .i64 v] w fun e w' => e = .returned (.bool true) ∧ Below w.heap.size w w' :=
  has_calls K.lo K.hi v na K.week true w (decide_eq_true h) hna
theorem has_f {K : Fld.Kd} {v : Nat} (na : Value) (w : World) (h : ¬ Fld.has K v) (hna : ∃ A n c, na = .slice A n c) :
    Calls Tryz.prog 109 #[.agg #[.int .i64 K.lo, .int .i64 K.hi, na, .bool K.week], .int .i64 v] w fun e w' => e = .returned (.bool false) ∧ Below w.heap.size w w' :=
  has_calls K.lo K.hi v na K.week false w (decide_eq_false h) hna
/-- an item's value -/
def itv (x : Fld.It) (b : Bool) : Value := .agg #[.int .i64 x.f, .int .i64 x.fa, .int .i64 x.s, .int .i64 x.sa, .int .i64 x.t, .int .i64 x.ta, .bool b]
/-- what wrong returns: a place and an error -/
def wrongR : Option Nat → Int × Int
  | none => (0, 0)
  | some a => (a, 2)
/-- the two variables of wrong and numbers -/
theorem two_box (w : World) (o1 o2 : Obj) : Below w.heap.size w ((w.alloc o1).alloc o2) := ((Below.refl _ w).alloc (Nat.le_refl _) o1).alloc (by simp) o2
theorem two_below {w w1 : World} {o1 o2 : Obj} (hb : Below (w.heap.size + 1 + 1) ((w.alloc o1).alloc o2) w1) : Below w.heap.size w w1 := (two_box w o1 o2).trans (hb.mono (by omega))
set_option maxHeartbeats 2000000 in
theorem wrong_any (K : Fld.Kd) (x : Fld.It) (bw : Bool) (na : Value) (w : World) (hna : ∃ A n c, na = .slice A n c) :
    Calls Tryz.prog 71 #[.agg #[.int .i64 K.lo, .int .i64 K.hi, na, .bool K.week], .agg #[.int .i64 x.f, .int .i64 x.fa, .int .i64 x.s, .int .i64 x.sa, .int .i64 x.t, .int .i64 x.ta, .bool bw]] w fun e w' => e = .returned (.tuple #[.int .i64 (wrongR (Fld.wrong K x)).1, .int .i64 (wrongR (Fld.wrong K x)).2]) ∧ Below w.heap.size w w' := by
  obtain ⟨A, n, c, rfl⟩ := hna
  by_cases h1 : Fld.has K x.f
  · have H1 := Lib.hid (fun w => has_t (.slice A n c) w h1 ⟨A, n, c, rfl⟩)
    by_cases h2 : Fld.has K x.s
    · have H2 := Lib.hid (fun w => has_t (.slice A n c) w h2 ⟨A, n, c, rfl⟩)
      by_cases h3 : x.s < x.f
      · have e : Fld.wrong K x = some x.fa := by unfold Fld.wrong; rw [if_neg (by simpa using h1), if_neg (by simpa using h2), if_pos h3]
        rw [e]
        have d : decide ((x.s : Int) < x.f) = true := by simpa using h3
        have d' : decide (x.s < x.f) = true := by simpa using h3
        clear h1 h2 h3 e
        go_enter Tryz.func71, Tryz.ntmps71
        go_wp2_with fail
        refine (H1.out _).mono ?_
        rintro e w1 ⟨rfl, hb⟩
        obtain ⟨hc, hf⟩ := kept hb
        have HB := Lib.hid (two_below (by simpa using hb))
        have hs1 : w.heap.size + 1 < w1.heap.size := by have := hb.size; simp at this; omega
        have hs0 : w.heap.size < w1.heap.size := by omega
        clear hb
        go_wp2_with fail
        refine (H2.out _).mono ?_
        rintro e w2 ⟨rfl, hb⟩
        obtain ⟨hc2, hf2⟩ := kept hb
        have HB2 := Lib.hid (HB.out.trans (hb.mono HB.out.size))
        clear hb
        go_wp2_with fail
        go_ret2
        exact ⟨rfl, HB2.out⟩
      · have d : decide ((x.s : Int) < x.f) = false := by simpa using h3
        have d' : decide (x.s < x.f) = false := by simpa using h3
        by_cases h4 : x.t = 0
        · have e : Fld.wrong K x = some x.ta := by unfold Fld.wrong; rw [if_neg (by simpa using h1), if_neg (by simpa using h2), if_neg h3, if_pos h4]
          rw [e]
          have t : ((x.t : Int) == 0) = true := by rw [beq_iff_eq]; omega
          have t' : (x.t == 0) = true := by rw [beq_iff_eq]; omega
          clear h1 h2 h3 h4 e
          go_enter Tryz.func71, Tryz.ntmps71
          go_wp2_with fail
          refine (H1.out _).mono ?_
          rintro e w1 ⟨rfl, hb⟩
          obtain ⟨hc, hf⟩ := kept hb
          have HB := Lib.hid (two_below (by simpa using hb))
          have hs1 : w.heap.size + 1 < w1.heap.size := by have := hb.size; simp at this; omega
          have hs0 : w.heap.size < w1.heap.size := by omega
          clear hb
          go_wp2_with fail
          refine (H2.out _).mono ?_
          rintro e w2 ⟨rfl, hb⟩
          obtain ⟨hc2, hf2⟩ := kept hb
          have HB2 := Lib.hid (HB.out.trans (hb.mono HB.out.size))
          clear hb
          go_wp2_with fail
          go_ret2
          exact ⟨rfl, HB2.out⟩
        · have e : Fld.wrong K x = none := by unfold Fld.wrong; rw [if_neg (by simpa using h1), if_neg (by simpa using h2), if_neg h3, if_neg h4]
          rw [e]
          have t : ((x.t : Int) == 0) = false := by rw [beq_eq_false_iff_ne]; omega
          have t' : (x.t == 0) = false := by rw [beq_eq_false_iff_ne]; omega
          clear h1 h2 h3 h4 e
          go_enter Tryz.func71, Tryz.ntmps71
          go_wp2_with fail
          refine (H1.out _).mono ?_
          rintro e w1 ⟨rfl, hb⟩
          obtain ⟨hc, hf⟩ := kept hb
          have HB := Lib.hid (two_below (by simpa using hb))
          have hs1 : w.heap.size + 1 < w1.heap.size := by have := hb.size; simp at this; omega
          have hs0 : w.heap.size < w1.heap.size := by omega
          clear hb
          go_wp2_with fail
          refine (H2.out _).mono ?_
          rintro e w2 ⟨rfl, hb⟩
          obtain ⟨hc2, hf2⟩ := kept hb
          have HB2 := Lib.hid (HB.out.trans (hb.mono HB.out.size))
          clear hb
          go_wp2_with fail
          go_ret2
          exact ⟨rfl, HB2.out⟩
    · have H2 := Lib.hid (fun w => has_f (.slice A n c) w h2 ⟨A, n, c, rfl⟩)
      have e : Fld.wrong K x = some x.sa := by unfold Fld.wrong; rw [if_neg (by simpa using h1), if_pos h2]
      rw [e]
      clear h1 h2 e
      go_enter Tryz.func71, Tryz.ntmps71
      go_wp2_with fail
      refine (H1.out _).mono ?_
      rintro e w1 ⟨rfl, hb⟩
      obtain ⟨hc, hf⟩ := kept hb
      have HB := Lib.hid (two_below (by simpa using hb))
      have hs1 : w.heap.size + 1 < w1.heap.size := by have := hb.size; simp at this; omega
      have hs0 : w.heap.size < w1.heap.size := by omega
      clear hb
      go_wp2_with fail
      refine (H2.out _).mono ?_
      rintro e w2 ⟨rfl, hb⟩
      obtain ⟨hc2, hf2⟩ := kept hb
      have HB2 := Lib.hid (HB.out.trans (hb.mono HB.out.size))
      clear hb
      go_wp2_with fail
      go_ret2
      exact ⟨rfl, HB2.out⟩
  · have H1 := Lib.hid (fun w => has_f (.slice A n c) w h1 ⟨A, n, c, rfl⟩)
    have e : Fld.wrong K x = some x.fa := by unfold Fld.wrong; rw [if_pos h1]
    rw [e]
    clear h1 e
    go_enter Tryz.func71, Tryz.ntmps71
    go_wp2_with fail
    refine (H1.out _).mono ?_
    rintro e w1 ⟨rfl, hb⟩
    obtain ⟨hc, hf⟩ := kept hb
    have HB := Lib.hid (two_below (by simpa using hb))
    clear hb
    go_wp2_with fail
    go_ret2
    exact ⟨rfl, HB.out⟩

/-! numbers -/
/-- what numbers returns for an item: its set, if it is right -/
def NumIs (K : Fld.Kd) (x : Fld.It) (S : Nat) : Prop := S < 2 ^ 64 ∧ (Fld.wrong K x = none → S = Fld.setOf K x)
theorem fold7_lt {K : Fld.Kd} {S : Nat} (h : S < 2 ^ 64) : Fld.fold7 K S < 2 ^ 64 := by
  unfold Fld.fold7
  split
  · exact Nat.or_lt_two_pow (Nat.lt_of_le_of_lt Nat.and_le_left h) (by decide)
  · exact h
set_option maxHeartbeats 2000000 in
theorem numsOf_any (K : Fld.Kd) (O : K.Ok) (x : Fld.It) (bw : Bool) (na : Value) (hna : ∃ A n c, na = .slice A n c) : ∃ S, NumIs K x S ∧ ∀ w,
    Calls Tryz.prog 72 #[.agg #[.int .i64 K.lo, .int .i64 K.hi, na, .bool K.week], .agg #[.int .i64 x.f, .int .i64 x.fa, .int .i64 x.s, .int .i64 x.sa, .int .i64 x.t, .int .i64 x.ta, .bool bw]] w fun e w' => e = .returned (.int .u64 (S : Nat)) ∧ Below w.heap.size w w' := by
  obtain ⟨A, n, c, rfl⟩ := hna
  obtain ⟨S0, r, hr⟩ := isRange_ex (x.f : Int) (x.s : Int) (x.t : Int)
  have hlt := hr.lt
  have heq : Fld.wrong K x = none → S0 = Bit.rangeS x.f x.s x.t := by
    intro hw
    obtain ⟨h1, h2, h3, h4⟩ := Fld.wrong_none.1 hw
    have b1 := Fld.has_lt O h1
    have b2 := Fld.has_lt O h2
    rcases hr with ⟨h, _⟩ | ⟨_, _, _, _, h, _⟩ | ⟨l, h, t, e1, e2, e3, _, _, _, e, _⟩
    · exact (h ⟨by omega, by omega, by omega, by omega⟩).elim
    · rcases h with h | h <;> omega
    · obtain rfl : x.f = l := by omega
      obtain rfl : x.s = h := by omega
      obtain rfl : x.t = t := by omega
      exact e
  refine ⟨Fld.fold7 K S0, ⟨fold7_lt hlt, fun hw => by rw [heq hw]; rfl⟩, fun w => ?_⟩
  have B2 := Lib.hid (two_box w (.cells #[.int .i64 K.lo, .int .i64 K.hi, .slice A n c, .bool K.week] 75) (.cells #[.int .i64 x.f, .int .i64 x.fa, .int .i64 x.s, .int .i64 x.sa, .int .i64 x.t, .int .i64 x.ta, .bool bw] 131))
  have R := Lib.hid (fun w => range_any _ _ _ S0 r w hr)
  clear heq hr
  cases hk : K.week with
  | false =>
    have e : Fld.fold7 K S0 = S0 := by unfold Fld.fold7; rw [if_neg (by rw [hk]; simp)]
    rw [e]
    rw [hk] at B2
    clear e
    go_enter Tryz.func72, Tryz.ntmps72
    go_wp2_with fail
    refine (R.out _).mono ?_
    rintro e w1 ⟨rfl, rfl⟩
    go_wp2_with fail
    go_ret
    exact ⟨rfl, B2.out⟩
  | true =>
    have HA := Lib.hid (fun w => has_any S0 7 w hlt)
    have hb7 : hasB S0 7 = S0.testBit 7 := has_nat hlt 7
    rw [hb7] at HA
    rw [hk] at B2
    cases h7 : S0.testBit 7 with
    | false =>
      have e : Fld.fold7 K S0 = S0 := by unfold Fld.fold7; rw [if_neg (by rw [h7]; simp)]
      rw [e]
      rw [h7] at HA
      clear e hb7 h7 hk
      go_enter Tryz.func72, Tryz.ntmps72
      go_wp2_with fail
      refine (R.out _).mono ?_
      rintro e w1 ⟨rfl, rfl⟩
      go_wp2_with fail
      refine (HA.out _).mono ?_
      rintro e w1 ⟨rfl, rfl⟩
      go_wp2_with fail
      go_ret
      exact ⟨rfl, B2.out⟩
    | true =>
      have e : Fld.fold7 K S0 = (S0 &&& (18446744073709551615 - 128)) ||| 1 := by unfold Fld.fold7; rw [if_pos ⟨hk, h7⟩]
      rw [e]
      rw [h7] at HA
      have hn : bits .andNot .u64 (S0 : Int) 128 = ((S0 &&& (18446744073709551615 - 128) : Nat) : Int) := u64_andNot_nat S0 128 hlt (by decide)
      have hl2 : (S0 &&& (18446744073709551615 - 128)) < 2 ^ 64 := Nat.lt_of_le_of_lt Nat.and_le_left hlt
      have ho : bits .or .u64 ((S0 &&& (18446744073709551615 - 128) : Nat) : Int) 1 = (((S0 &&& (18446744073709551615 - 128)) ||| 1 : Nat) : Int) := u64_or_nat _ 1 hl2 (by decide)
      generalize S0 &&& (18446744073709551615 - 128) = T at *
      obtain ⟨U, hU⟩ : ∃ U : Nat, T ||| 1 = U := ⟨_, rfl⟩
      rw [hU] at ho ⊢
      clear e hb7 h7 hk hU hl2
      go_enter Tryz.func72, Tryz.ntmps72
      go_wp2_with fail
      refine (R.out _).mono ?_
      rintro e w1 ⟨rfl, rfl⟩
      go_wp2_with fail
      refine (HA.out _).mono ?_
      rintro e w1 ⟨rfl, rfl⟩
      go_wp2_with fail
      go_ret
      exact ⟨rfl, B2.out⟩
end Go.Proofs.YtpnfifhanmpapaaGreatDoor
