/- A range over a function whose iterator keeps a state of its own in memory, and whose body is never left early: one law. -/
import Derived.Test.YtlmbfhbfejjpdaaGreatDoorFldI
import Derived.RangeFuncNested
import Derived.RangeFuncBox
import Derived.OwnWalkIn
import Derived.TacticsInMore
import Derived.LoopNIn
import Derived.LoopIn
namespace Go.Proofs.YtlmbfhbfejjpdaaGreatDoor
open Go.ChangeShapes Go.WideShapes Go.RowKit Go.Shelf

variable {F : Fence} {n : Nat} {P : Program}

/-- The iterator moves by Mv, a round keeps Kp; I is what the loop's own variables hold between two rounds.
hseq is the iterator's contract, for whatever J its moves keep; Fin says how it ends. -/
theorem range_own {α : Type} {g : Operand} {p : Tmp} {assign body : Code} {Q : Exit → Act → World → Prop} {a : Act} {w : World}
    (hro : F.round = none) (h1 : 1 ≤ n) {gf : Nat} {lb : Array Value} (hg : a.eval g = .func (.func gf) #[] lb) (hFg : F.fn gf) (eg : ∀ args w, (callFunc gf args).run P w = .ok (.enter gf args) w)
    (enc : α → Value) (Mv Kp : World → World → Prop) (Fin : List α → World → Prop) (I : List α → World → Prop)
    (hseq : ∀ (l : Nat) (J : List α → World → Prop) (W : World), Below w.heap.size w W → w.heap.size ≤ l → (∀ pre A B, J pre A → Mv A B → J pre B) →
      (∀ pre x A, J pre A → YieldAt F (n - 1 - 1) P l #[enc x] A fun e B => e = .returned (.bool true) ∧ J (pre ++ [x]) B ∧ Kp A B) → J [] W →
      CallsIn F (n - 1) P gf (#[.func (.yield l) #[] #[]] ++ lb) W fun e B => (∃ v, e = .returned v) ∧ ∃ xs, Fin xs B ∧ J xs B)
    (hMk : ∀ A B (k : Nat) (o : Obj), w.heap.size ≤ k → A.heap[k]? = some o → o.isCells = false → Mv A B → B.heap[k]? = some o)
    (hKr : ∀ A B (k : Nat) (o o' : Obj), w.heap.size ≤ k → B.heap[k]? = some o → o.isCells = false → Kp A B → Kp A (B.putObj k o'))
    (hIM : ∀ pre A B, I pre A → Mv A B → I pre B)
    (hIb : ∀ pre A (k : Nat) (o o' : Obj), w.heap.size ≤ k → A.heap[k]? = some o → o.isCells = false → I pre A → I pre (A.putObj k o'))
    (hIa : ∀ pre A (o : Obj), Below w.heap.size w A → I pre A → I pre (A.alloc o))
    (hFb : ∀ xs A (k : Nat) (o o' : Obj), w.heap.size ≤ k → A.heap[k]? = some o → o.isCells = false → Fin xs A → Fin xs (A.putObj k o'))
    (h0 : I [] w)
    (hround : ∀ (l : Nat) (pre : List α) (x : α) (W : World), w.heap.size ≤ l → (∃ o : Obj, W.heap[l]? = some o ∧ o.isCells = false) → I pre W →
      assign.wpIn (F.inRound l) (n - 1 - 1) P (Exit.then (fun a₁ W₁ => KeepsOthers W W₁ ∧ (∀ o', Kp W (W₁.putObj l o')) ∧ ∀ o', body.wpIn (F.inRound l) (n - 1 - 1) P (fun e _ W' => e = .normal ∧ KeepsOthers (W₁.putObj l o') W' ∧ Kp W W' ∧ I (pre ++ [x]) W') a₁ (W₁.putObj l o')) (fun _ _ _ => False))
        { tmps := a.tmps.setIfInBounds p (enc x), defers := [] } W)
    (hdone : ∀ (D : Nat) (xs : List α) (W : World), w.heap.size ≤ D → Fin xs W → I xs W → W.heap[D]? = some (.deferred (some [])) → Q .normal { a with defers := { target := .collected D, args := #[] } :: a.defers } W) :
    (Code.rangeFunc g #[p] assign body).wpIn F n P Q a w := by
  obtain ⟨D, hD⟩ : ∃ D, D = w.heap.size := ⟨_, rfl⟩
  refine wpIn_rangeFunc fun fn hfn => ?_
  rw [hro]
  have hrun := run_enterLoop_outer (P := P) (w := w) fn a.tmps #[p] assign body
  rw [← hD] at hrun
  obtain ⟨rec, hrec⟩ : ∃ rec : Loop, rec = { state := .ready, pending := none, fn, tmps := a.tmps, params := #[p], assign, body, defers := D } := ⟨_, rfl⟩
  rw [← hrec] at hrun
  have rS : rec.state = .ready := by rw [hrec]
  have rP : rec.pending = none := by rw [hrec]
  have rB : { rec with state := .ready, pending := none } = rec := by rw [hrec]
  have hA : I [] (w.alloc (.deferred (some []))) := hIa _ _ _ (Below.refl _ _) h0
  have bA : Below w.heap.size w (w.alloc (.deferred (some []))) := (Below.refl _ w).alloc (Nat.le_refl _) _
  have bB : Below w.heap.size w ((w.alloc (.deferred (some []))).alloc (.loop rec)) := bA.alloc (by simp) _
  have hB : I [] ((w.alloc (.deferred (some []))).alloc (.loop rec)) := hIa _ _ _ bA hA
  have lB : ((w.alloc (.deferred (some []))).alloc (.loop rec)).heap[D + 1]? = some (.loop rec) := by
    have := World.alloc_heap_new (w.alloc (.deferred (some []))) (.loop rec)
    rw [World.size_alloc] at this
    rw [hD]; exact this
  have dB : ((w.alloc (.deferred (some []))).alloc (.loop rec)).heap[D]? = some (.deferred (some [])) := by
    rw [hD]
    exact (Below.heap_alloc _ _ _ (by simp)).trans (World.alloc_heap_new w _)
  generalize ((w.alloc (.deferred (some []))).alloc (.loop rec)) = W at *
  refine ⟨D + 1, [{ target := .collected D, args := #[] }], W, { target := .fn (.func gf) lb, args := #[.func (.yield (D + 1)) #[] #[]] }, W, gf, #[.func (.yield (D + 1)) #[] #[]] ++ lb, W, hrun, ?_, ?_, ?_, fun _ => h1, ?_⟩
  · simp only [resolve, hg]
    simp [go_sem]
  · intro f' hf'
    simp [Target.leads] at hf'
    subst hf'
    exact hFg
  · simp [invoke, go_sem, eg]
  refine (hseq (D + 1) (fun pre A => I pre A ∧ A.heap[D + 1]? = some (.loop rec) ∧ A.heap[D]? = some (.deferred (some []))) W bB (by omega) ?_ ?_ ⟨hB, lB, dB⟩).mono ?_
  · rintro pre A B ⟨i, l, d⟩ hm
    exact ⟨hIM _ _ _ i hm, hMk _ _ _ _ (by omega) l rfl hm, hMk _ _ _ _ (by omega) d rfl hm⟩
  · -- one round
    rintro pre x A ⟨i, l, d⟩
    have hy := run_yield (P := P) (args := #[enc x]) l (by rw [hrec]; rfl)
    refine ⟨_, _, _, _, hy, ?_⟩
    rw [show rec.fn = fn by rw [hrec], show rec.assign = assign by rw [hrec], show rec.body = body by rw [hrec]]
    have ht : (rec.params.zip #[enc x]).foldl (fun t (p, v) => t.setIfInBounds p v) rec.tmps = a.tmps.setIfInBounds p (enc x) := by
      rw [hrec]
      simp
    rw [ht]
    refine roundIn_of_wpIn hfn (wpIn_mono (hround (D + 1) pre x A (by omega) ⟨_, l, rfl⟩ i) ?_)
    rintro e a₁ A₁ hA₁
    cases e with
    | normal =>
      obtain ⟨ko, kp, hb⟩ := hA₁
      have l1 := ko.same _ _ l rfl
      have d1 := ko.same _ _ d rfl
      refine ⟨_, run_beginRound l1 rS, wpIn_mono (hb _) ?_⟩
      rintro e a₂ A₂ ⟨rfl, ko2, kp2, i2⟩
      have lt : D + 1 < A₁.heap.size := (Array.getElem?_eq_some_iff.1 l1).1
      have l2 := ko2.same _ _ (World.putObj_heap_same (w := A₁) (o := .loop { rec with state := .busy }) lt) rfl
      have d2 := ko2.same _ _ ((World.putObj_heap_other (w := A₁) (o := .loop { rec with state := .busy }) (show D ≠ D + 1 by omega)).trans d1) rfl
      have lt2 : D + 1 < A₂.heap.size := (Array.getElem?_eq_some_iff.1 l2).1
      have he := run_endRound (P := P) none l2
      refine ⟨_, _, he, rfl, ⟨hIb _ _ _ _ _ (by omega) l2 rfl i2, ?_, (World.putObj_heap_other (by omega)).trans d2⟩, hKr _ _ _ _ _ (by omega) l2 rfl kp2⟩
      rw [World.putObj_heap_same lt2]
      simp only [Option.isNone_none, if_true]
      rw [show ({ rec with state := LoopState.ready, pending := none } : Loop) = rec from rB]
    | exit id => exact hA₁.elim
    | goto t => exact hA₁.elim
    | ret => exact hA₁.elim
    | panic c => exact hA₁.elim
    | outgrown => exact hA₁.elim
  · -- behind the iterator
    rintro e B ⟨⟨v, rfl⟩, xs, hf, i, l, d⟩
    have he := run_endLoop (P := P) l (by rw [rS]; simp)
    rw [rP] at he
    exact ⟨none, _, he, hdone D xs _ (by omega) (hFb _ _ _ _ _ (by omega) l rfl hf) (hIb _ _ _ _ _ (by omega) l rfl i) ((World.putObj_heap_other (by omega)).trans d)⟩
end Go.Proofs.YtlmbfhbfejjpdaaGreatDoor
