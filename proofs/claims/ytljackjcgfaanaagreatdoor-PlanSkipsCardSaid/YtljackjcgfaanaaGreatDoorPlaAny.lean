/- A region that draws its order, by what holds of the operations that have come up: one proof an operation, however many orders there are. -/
import Derived.Test.YtljackjcgfaanaaGreatDoorProg
import Derived.Deep.RegionHeld3
namespace Go.Proofs.YtljackjcgfaanaaGreatDoor

section
variable {P : Program} {ops : Array Oper} {Q : Exit → Act → World → Prop} {md : Region.Mode}

theorem countP_set : ∀ (l : List Bool) (i : Nat), l[i]? = some false → (l.set i true).countP (!·) + 1 = l.countP (!·)
  | [], i, h => by cases h
  | b :: l, 0, h => by
    simp at h
    subst h
    simp
  | b :: l, i + 1, h => by
    have ih := countP_set l i (by simpa using h)
    rw [List.set_cons_succ, List.countP_cons, List.countP_cons]
    omega
theorem countP_none : ∀ (l : List Bool), l.countP (!·) = 0 → ∀ i : Nat, l[i]? ≠ some false
  | [], _, i => by simp
  | b :: l, h, 0 => by
    rw [List.countP_cons] at h
    cases b
    · simp at h
    · simp
  | b :: l, h, i + 1 => by
    rw [List.countP_cons] at h
    have := countP_none l (by omega) i
    simpa using this
theorem getD_false {l : Array Bool} {i : Nat} (h : l.getD i true = false) : l.toList[i]? = some false := by
  rw [Array.getD_eq_getD_getElem?] at h
  rw [Array.getElem?_toList]
  cases e : l[i]? with
  | none => rw [e] at h; cases h
  | some b => rw [e] at h; simp at h; rw [h]
theorem getD_true {l : Array Bool} {i : Nat} (h : l.getD i false = true) : l.getD i true = true := by
  rw [Array.getD_eq_getD_getElem?] at h ⊢
  cases e : l[i]? with
  | none => rfl
  | some b => rw [e] at h; simpa using h
theorem getD_put (l : Array Bool) (i j : Nat) (hi : i < l.size) : (l.setIfInBounds i true).getD j true = if j = i then true else l.getD j true := by
  rw [Array.getD_eq_getD_getElem?, Array.getD_eq_getD_getElem?, Array.getElem?_setIfInBounds]
  by_cases e : i = j
  · subst e
    rw [if_pos rfl, if_pos rfl, if_pos hi]
    rfl
  · rw [if_neg e, if_neg (fun q => e q.symm)]
/-- Inv g: what holds where g says which operations have come up. -/
theorem wpAny_inv (Inv : (Nat → Bool) → Act → World → Prop)
    (hstep : ∀ (i : Nat) (o : Oper) (g : Nat → Bool) (a : Act) (w : World), ops[i]? = some o → Inv g a w → g i = false → (∀ e ∈ o.after, Region.binds md e = true → g e.on = true) →
      ∀ K' : Act → World → Prop, Shut (∀ a' w', Inv (fun j => if j = i then true else g j) a' w' → K' a' w') → if Region.wanted o (yielded ops a.tmps) = true then Oper.wp P o a w K' Q else K' (a.put o.dst undef) w)
    (hend : ∀ g a w, Inv g a w → (∀ i, i < ops.size → g i = true) → Q .normal a w)
    (htopo : ∀ (i : Nat) (o : Oper), ops[i]? = some o → ∀ e ∈ o.after, Region.binds md e = true → e.on < i) :
    ∀ (fuel : Nat) (l : Array Bool) (a : Act) (w : World), l.size = ops.size → l.toList.countP (!·) ≤ fuel → Inv (fun i => l.getD i true) a w → wpAny P md ops Q fuel l a w := by
  have all : ∀ l : Array Bool, l.size = ops.size → Region.ready md ops l = [] → ∀ i, i < ops.size → l.getD i true = true := by
    intro l hl hr i
    induction i using Nat.strongRecOn with
    | ind i ih =>
      intro hi
      cases h : l.getD i true with
      | true => rfl
      | false =>
        exfalso
        have : i ∈ Region.ready md ops l := mem_ready.2 ⟨h, ops[i], Array.getElem?_eq_getElem hi, fun e he hb => by
          have lt := htopo i _ (Array.getElem?_eq_getElem hi) e he hb
          have := ih e.on lt (by omega)
          rw [Array.getD_eq_getD_getElem?] at this ⊢
          rw [Array.getElem?_eq_getElem (by omega)] at this ⊢
          simpa using this⟩
        rw [hr] at this
        cases this
  intro fuel
  induction fuel with
  | zero =>
    intro l a w hl hc hI
    have none : Region.ready md ops l = [] := by
      apply List.eq_nil_iff_forall_not_mem.2
      intro i hi
      exact countP_none _ (by omega) i (getD_false (mem_ready.1 hi).1)
    exact ⟨none, hend _ a w hI (all l hl none)⟩
  | succ fuel ih =>
    intro l a w hl hc hI
    refine ⟨fun hr => hend _ a w hI (all l hl hr), fun i hi => ?_⟩
    obtain ⟨h1, o, ho, h2⟩ := mem_ready.1 hi
    have hil : i < l.size := by rw [hl]; exact (Array.getElem?_eq_some_iff.1 ho).1
    refine wpOp_step ho fun K' hK => hstep i o _ a w ho hI h1 (fun e he hb => getD_true (h2 e he hb)) K' (fun a' w' h => hK a' w' ?_)
    refine ih _ a' w' (by rw [Array.size_setIfInBounds, hl]) ?_ ?_
    · have := countP_set l.toList i (getD_false h1)
      rw [Array.toList_setIfInBounds]
      omega
    · have e : (fun j => (l.setIfInBounds i true).getD j true) = fun j => if j = i then true else l.getD j true := funext fun j => getD_put l i j hil
      rw [e]
      exact h
/-- each operation waits for earlier ones alone -/
def topoB (ops : Array Oper) : Bool := (List.range ops.size).all fun i => match ops[i]? with
  | some o => o.after.all fun e => !Region.binds .any e || decide (e.on < i)
  | none => true
theorem topo_of (h : topoB ops = true) (i : Nat) (o : Oper) (ho : ops[i]? = some o) (e : Edge) (he : e ∈ o.after) (hb : Region.binds .any e = true) : e.on < i := by
  unfold topoB at h
  rw [List.all_eq_true] at h
  have := h i (by simpa using (Array.getElem?_eq_some_iff.1 ho).1)
  rw [ho] at this
  have := Array.all_eq_true_iff_forall_mem.1 this e he
  rw [hb] at this
  simpa using this
/-- .. from the region's beginning on. -/
theorem wp_region_inv {id : Nat} {a : Act} {w : World} (Inv : (Nat → Bool) → Act → World → Prop) (hm : P.follows .mixedOrders = true)
    (h0 : Inv (fun i => decide (ops.size ≤ i)) a w.drew)
    (hstep : ∀ (i : Nat) (o : Oper) (g : Nat → Bool) (a : Act) (w : World), ops[i]? = some o → Inv g a w → g i = false → (∀ e ∈ o.after, Region.binds .any e = true → g e.on = true) →
      ∀ K' : Act → World → Prop, Shut (∀ a' w', Inv (fun j => if j = i then true else g j) a' w' → K' a' w') → if Region.wanted o (yielded ops a.tmps) = true then Oper.wp P o a w K' Q else K' (a.put o.dst undef) w)
    (hend : ∀ g a w, Inv g a w → (∀ i, i < ops.size → g i = true) → Q .normal a w)
    (htopo : topoB ops = true) : (Code.region id ops true).wp P Q a w := by
  refine wp_region_any hm (wpAny_inv Inv hstep hend (topo_of htopo) ops.size _ a _ (by simp) ?_ ?_)
  · rw [Array.toList_replicate]
    exact Nat.le_trans List.countP_le_length (by simp)
  · have e : (fun i => (Array.replicate ops.size false).getD i true) = fun i => decide (ops.size ≤ i) := funext fun i => by
      rw [Array.getD_eq_getD_getElem?, Array.getElem?_replicate]
      by_cases h : i < ops.size
      · rw [if_pos h, decide_eq_false (by omega)]
        rfl
      · rw [if_neg h, decide_eq_true (by omega)]
        rfl
    rw [e]
    exact h0
end
end Go.Proofs.YtljackjcgfaanaaGreatDoor
