/- A region that draws its order, by what holds of the operations that have come up: one proof an operation, however many orders there are. Contract of Print of package expr. -/
import Derived.Test.YtpnfifhanmpapaaGreatDoorProg
import Derived.Deep.RegionHeld3
import Derived.Test.YtpnfifhanmpapaaGreatDoorMExpB
/- A region that draws its order, by what holds of the operations that have come up: one proof an operation, however many orders there are. -/
namespace Go.Proofs.YtpnfifhanmpapaaGreatDoor

section
variable {P : Program} {ops : Array Oper} {Q : Exit → Act → World → Prop} {md : Region.Mode}

theorem countP_set : ∀ (l : List Bool) (i : Nat), l[i]? = some false → (l.set i true).countP (!·) + 1 = l.countP (!·)
  | [], i, h => by cases h
  | b :: l, 0, h => by
    simp at h
    subst h
    simp
  | b :: l, i + 1, h => by
    have ih := countP_set l i (by simpa using h)
    rw [List.set_cons_succ, List.countP_cons, List.countP_cons]
    omega
theorem countP_none : ∀ (l : List Bool), l.countP (!·) = 0 → ∀ i : Nat, l[i]? ≠ some false
  | [], _, i => by simp
  | b :: l, h, 0 => by
    rw [List.countP_cons] at h
    cases b
    · simp at h
    · simp
  | b :: l, h, i + 1 => by
    rw [List.countP_cons] at h
    have := countP_none l (by omega) i
    simpa using this
theorem getD_false {l : Array Bool} {i : Nat} (h : l.getD i true = false) : l.toList[i]? = some false := by
  rw [Array.getD_eq_getD_getElem?] at h
  rw [Array.getElem?_toList]
  cases e : l[i]? with
  | none => rw [e] at h; cases h
  | some b => rw [e] at h; simp at h; rw [h]
theorem getD_true {l : Array Bool} {i : Nat} (h : l.getD i false = true) : l.getD i true = true := by
  rw [Array.getD_eq_getD_getElem?] at h ⊢
  cases e : l[i]? with
  | none => rfl
  | some b => rw [e] at h; simpa using h
theorem getD_put (l : Array Bool) (i j : Nat) (hi : i < l.size) : (l.setIfInBounds i true).getD j true = if j = i then true else l.getD j true := by
  rw [Array.getD_eq_getD_getElem?, Array.getD_eq_getD_getElem?, Array.getElem?_setIfInBounds]
  by_cases e : i = j
  · subst e
    rw [if_pos rfl, if_pos rfl, if_pos hi]
    rfl
  · rw [if_neg e, if_neg (fun q => e q.symm)]
/-- Inv g: what holds where g says which operations have come up. -/
theorem wpAny_inv (Inv : (Nat → Bool) → Act → World → Prop)
    (hstep : ∀ (i : Nat) (o : Oper) (g : Nat → Bool) (a : Act) (w : World), ops[i]? = some o → Inv g a w → g i = false → (∀ e ∈ o.after, Region.binds md e = true → g e.on = true) →
      ∀ K' : Act → World → Prop, Shut (∀ a' w', Inv (fun j => if j = i then true else g j) a' w' → K' a' w') → if Region.wanted o (yielded ops a.tmps) = true then Oper.wp P o a w K' Q else K' (a.put o.dst undef) w)
    (hend : ∀ g a w, Inv g a w → (∀ i, i < ops.size → g i = true) → Q .normal a w)
    (htopo : ∀ (i : Nat) (o : Oper), ops[i]? = some o → ∀ e ∈ o.after, Region.binds md e = true → e.on < i) :
    ∀ (fuel : Nat) (l : Array Bool) (a : Act) (w : World), l.size = ops.size → l.toList.countP (!·) ≤ fuel → Inv (fun i => l.getD i true) a w → wpAny P md ops Q fuel l a w := by
  have all : ∀ l : Array Bool, l.size = ops.size → Region.ready md ops l = [] → ∀ i, i < ops.size → l.getD i true = true := by
    intro l hl hr i
    induction i using Nat.strongRecOn with
    | ind i ih =>
      intro hi
      cases h : l.getD i true with
      | true => rfl
      | false =>
        exfalso
        have : i ∈ Region.ready md ops l := mem_ready.2 ⟨h, ops[i], Array.getElem?_eq_getElem hi, fun e he hb => by
          have lt := htopo i _ (Array.getElem?_eq_getElem hi) e he hb
          have := ih e.on lt (by omega)
          rw [Array.getD_eq_getD_getElem?] at this ⊢
          rw [Array.getElem?_eq_getElem (by omega)] at this ⊢
          simpa using this⟩
        rw [hr] at this
        cases this
  intro fuel
  induction fuel with
  | zero =>
    intro l a w hl hc hI
    have none : Region.ready md ops l = [] := by
      apply List.eq_nil_iff_forall_not_mem.2
      intro i hi
      exact countP_none _ (by omega) i (getD_false (mem_ready.1 hi).1)
    exact ⟨none, hend _ a w hI (all l hl none)⟩
  | succ fuel ih =>
    intro l a w hl hc hI
    refine ⟨fun hr => hend _ a w hI (all l hl hr), fun i hi => ?_⟩
    obtain ⟨h1, o, ho, h2⟩ := mem_ready.1 hi
    have hil : i < l.size := by rw [hl]; exact (Array.getElem?_eq_some_iff.1 ho).1
    refine wpOp_step ho fun K' hK => hstep i o _ a w ho hI h1 (fun e he hb => getD_true (h2 e he hb)) K' (fun a' w' h => hK a' w' ?_)
    refine ih _ a' w' (by rw [Array.size_setIfInBounds, hl]) ?_ ?_
    · have := countP_set l.toList i (getD_false h1)
      rw [Array.toList_setIfInBounds]
      omega
    · have e : (fun j => (l.setIfInBounds i true).getD j true) = fun j => if j = i then true else l.getD j true := funext fun j => getD_put l i j hil
      rw [e]
      exact h
/-- each operation waits for earlier ones alone -/
def topoB (ops : Array Oper) : Bool := (List.range ops.size).all fun i => match ops[i]? with
  | some o => o.after.all fun e => !Region.binds .any e || decide (e.on < i)
  | none => true
theorem topo_of (h : topoB ops = true) (i : Nat) (o : Oper) (ho : ops[i]? = some o) (e : Edge) (he : e ∈ o.after) (hb : Region.binds .any e = true) : e.on < i := by
  unfold topoB at h
  rw [List.all_eq_true] at h
  have := h i (by simpa using (Array.getElem?_eq_some_iff.1 ho).1)
  rw [ho] at this
  have := Array.all_eq_true_iff_forall_mem.1 this e he
  rw [hb] at this
  simpa using this
/-- .. from the region's beginning on. -/
theorem wp_region_inv {id : Nat} {a : Act} {w : World} (Inv : (Nat → Bool) → Act → World → Prop) (hm : P.follows .mixedOrders = true)
    (h0 : Inv (fun i => decide (ops.size ≤ i)) a w.drew)
    (hstep : ∀ (i : Nat) (o : Oper) (g : Nat → Bool) (a : Act) (w : World), ops[i]? = some o → Inv g a w → g i = false → (∀ e ∈ o.after, Region.binds .any e = true → g e.on = true) →
      ∀ K' : Act → World → Prop, Shut (∀ a' w', Inv (fun j => if j = i then true else g j) a' w' → K' a' w') → if Region.wanted o (yielded ops a.tmps) = true then Oper.wp P o a w K' Q else K' (a.put o.dst undef) w)
    (hend : ∀ g a w, Inv g a w → (∀ i, i < ops.size → g i = true) → Q .normal a w)
    (htopo : topoB ops = true) : (Code.region id ops true).wp P Q a w := by
  refine wp_region_any hm (wpAny_inv Inv hstep hend (topo_of htopo) ops.size _ a _ (by simp) ?_ ?_)
  · rw [Array.toList_replicate]
    exact Nat.le_trans List.countP_le_length (by simp)
  · have e : (fun i => (Array.replicate ops.size false).getD i true) = fun i => decide (ops.size ≤ i) := funext fun i => by
      rw [Array.getD_eq_getD_getElem?, Array.getElem?_replicate]
      by_cases h : i < ops.size
      · rw [if_pos h, decide_eq_false (by omega)]
        rfl
      · rw [if_neg h, decide_eq_true (by omega)]
        rfl
    rw [e]
    exact h0
end
end Go.Proofs.YtpnfifhanmpapaaGreatDoor
/- Contract of Print of package expr. -/
namespace Go.Proofs.YtpnfifhanmpapaaGreatDoor
open Go.ChangeShapes Go.WideShapes Go.RowKit Go.Shelf

theorem move_p {W W' : World} {b z : Nat} (G : W.grownBy W' (some b)) {v : Value} {t : TypeId} {cs : List Value} (h : ∃ A, v = .pointer (some ⟨A, 0, none⟩) ∧ Row W A t cs ∧ z < A) (hn : ∀ A, v = .pointer (some ⟨A, 0, none⟩) → A ≠ b) : ∃ A, v = .pointer (some ⟨A, 0, none⟩) ∧ Row W' A t cs ∧ z < A := by
  obtain ⟨A, e, r, l⟩ := h
  exact ⟨A, e, r.grown G (hn A e), l⟩
theorem move_s {W W' : World} {b z : Nat} (G : W.grownBy W' (some b)) {v : Value} {t : TypeId} {cs : List Value} (h : ∃ A, v = .slice (some ⟨A, 0, none⟩) 6 6 ∧ Row W A t cs ∧ z < A) (hn : ∀ A, v = .slice (some ⟨A, 0, none⟩) 6 6 → A ≠ b) : ∃ A, v = .slice (some ⟨A, 0, none⟩) 6 6 ∧ Row W' A t cs ∧ z < A := by
  obtain ⟨A, e, r, l⟩ := h
  exact ⟨A, e, r.grown G (hn A e), l⟩
/-- what Print's first region has made, so far -/
structure PA (w : World) (x : Exp.Ex) (g0 g1 g2 g3 g4 g5 g6 g7 g8 : Bool) (v5 v6 v7 v15 v16 v17 v18 : Value) (W : World) : Prop where
  below : Below w.heap.size w W
  ex : Row W w.heap.size 25 (exL x)
  h0 : g0 = true → ∃ A, v15 = .slice (some ⟨A, 0, none⟩) 6 6 ∧ Row W A 9 [.string ⟨#[]⟩, .string ⟨#[]⟩, .string ⟨#[]⟩, .string ⟨#[]⟩, .string ⟨#[]⟩, .string ⟨#[]⟩] ∧ w.heap.size < A
  h1 : g1 = true → v16 = .agg (ptrL w.heap.size).toArray
  h2 : g2 = true → v17 = exV x
  h3 : g3 = true → v18 = .agg #[.bool (x.star 0), .bool (x.star 1), .bool (x.star 2), .bool (x.star 3), .bool (x.star 4), .bool (x.star 5)]
  h4 : g4 = true → ∃ B, v6 = .pointer (some ⟨B, 0, none⟩) ∧ Row W B 104 (if g7 = true then ptrL w.heap.size else [.pointer none, .pointer none, .pointer none, .pointer none, .pointer none, .pointer none]) ∧ w.heap.size < B
  h5 : g5 = true → ∃ S, v7 = .pointer (some ⟨S, 0, none⟩) ∧ Row W S 107 (if g8 = true then [.bool (x.star 0), .bool (x.star 1), .bool (x.star 2), .bool (x.star 3), .bool (x.star 4), .bool (x.star 5)] else [.bool false, .bool false, .bool false, .bool false, .bool false, .bool false]) ∧ w.heap.size < S
  h6 : g6 = true → v5 = v15
  m6 : g6 = true → g0 = true
  m7 : g7 = true → g4 = true
  m8 : g8 = true → g5 = true
  d04 : g0 = true → g4 = true → ∀ A B, v15 = .slice (some ⟨A, 0, none⟩) 6 6 → v6 = .pointer (some ⟨B, 0, none⟩) → A ≠ B
  d05 : g0 = true → g5 = true → ∀ A B, v15 = .slice (some ⟨A, 0, none⟩) 6 6 → v7 = .pointer (some ⟨B, 0, none⟩) → A ≠ B
  d45 : g4 = true → g5 = true → ∀ A B, v6 = .pointer (some ⟨A, 0, none⟩) → v7 = .pointer (some ⟨B, 0, none⟩) → A ≠ B
/-- .. where Print's frame stands so -/
def PAInv (w : World) (x : Exp.Ex) (g : Nat → Bool) (a : Act) (W : World) : Prop := ∃ v5 v6 v7 v15 v16 v17 v18,
  a = { tmps := #[exV x, .pointer (some ⟨w.heap.size, 0, none⟩), .string ⟨#[]⟩, .int .i64 0, .int .i64 0, v5, v6, v7, undef, undef, exV x, .int .i64 0, .int .i64 0, .bool false, undef, v15, v16, v17, v18,
    undef, undef, undef, undef, undef, undef, undef, undef, undef, undef, undef, undef, undef, undef, undef, undef, undef, undef, undef, undef, undef, undef, undef, undef, undef, undef, undef, undef, undef, undef, undef, undef], defers := [] } ∧
  PA w x (g 0) (g 1) (g 2) (g 3) (g 4) (g 5) (g 6) (g 7) (g 8) v5 v6 v7 v15 v16 v17 v18 W
theorem PA.next {w W W' : World} {x : Exp.Ex} {g0 g1 g2 g3 g4 g5 g6 g7 g8 : Bool} {v5 v6 v7 v15 v16 v17 v18 : Value} (h : PA w x g0 g1 g2 g3 g4 g5 g6 g7 g8 v5 v6 v7 v15 v16 v17 v18 W) (hb : Below W.heap.size W W') : PA w x g0 g1 g2 g3 g4 g5 g6 g7 g8 v5 v6 v7 v15 v16 v17 v18 W' :=
  ⟨h.below.trans (hb.mono h.below.size), h.ex.below hb, fun g => by obtain ⟨A, e, r, l⟩ := h.h0 g; exact ⟨A, e, r.below hb, l⟩, h.h1, h.h2, h.h3, fun g => by obtain ⟨A, e, r, l⟩ := h.h4 g; exact ⟨A, e, r.below hb, l⟩, fun g => by obtain ⟨A, e, r, l⟩ := h.h5 g; exact ⟨A, e, r.below hb, l⟩, h.h6, h.m6, h.m7, h.m8, h.d04, h.d05, h.d45⟩

/-- the texts of the first k fields -/
def textsL (x : Exp.Ex) (k : Nat) : List Value := (List.range 6).map fun j => if j < k then .string ⟨(x.ft j).toArray⟩ else .string ⟨#[]⟩
theorem textsL_step (x : Exp.Ex) (k : Nat) (h : k < 6) : (textsL x k).set k (.string ⟨(x.ft k).toArray⟩) = textsL x (k + 1) :=
  six_cases h (P := fun k => (textsL x k).set k (.string ⟨(x.ft k).toArray⟩) = textsL x (k + 1)) rfl rfl rfl rfl rfl rfl
theorem textsL_at (x : Exp.Ex) (k : Nat) (h : k < 6) : (textsL x k)[k]? = some (.string ⟨#[]⟩) :=
  six_cases h (P := fun k => (textsL x k)[k]? = some (.string ⟨#[]⟩)) rfl rfl rfl rfl rfl rfl
def starsL (x : Exp.Ex) : List Value := [.bool (x.star 0), .bool (x.star 1), .bool (x.star 2), .bool (x.star 3), .bool (x.star 4), .bool (x.star 5)]
theorem starsL_at (x : Exp.Ex) (k : Nat) (h : k < 6) : (starsL x)[k]? = some (.bool (x.star k)) :=
  six_cases h (P := fun k => (starsL x)[k]? = some (.bool (x.star k))) rfl rfl rfl rfl rfl rfl
/-- the world in Print's loop: the expression's block, the texts' (A), the fields' places (B), the stars (S), the six kinds (from C on) -/
structure PL (w : World) (x : Exp.Ex) (k A B S C : Nat) (W : World) : Prop where
  below : Below w.heap.size w W
  lay : Lay W
  ex : Row W w.heap.size 25 (exL x)
  tx : Row W A 9 (textsL x k)
  pt : Row W B 104 (ptrL w.heap.size)
  st : Row W S 107 (starsL x)
  six : Six W C
  far : w.heap.size < A
  ab : A ≠ B
  as_ : A ≠ S
  ac : A < C
theorem PL.next {w W W' : World} {x : Exp.Ex} {k A B S C : Nat} (h : PL w x k A B S C W) (hb : Below W.heap.size W W') : PL w x k A B S C W' :=
  ⟨h.below.trans (hb.mono h.below.size), h.lay.below hb, h.ex.below hb, h.tx.below hb, h.pt.below hb, h.st.below hb, h.six.below hb, h.far, h.ab, h.as_, h.ac⟩
theorem PL.set {w W : World} {x : Exp.Ex} {k A B S C : Nat} (L : Lay w) (h : PL w x k A B S C W) (hk : k < 6) : PL w x (k + 1) A B S C (W.setCell ⟨A, k, none⟩ (.string ⟨(x.ft k).toArray⟩)) := by
  have := h.far
  have := h.ac
  have b : Below w.heap.size w (W.setCell ⟨A, k, none⟩ (.string ⟨(x.ft k).toArray⟩)) := bel_cell h.below (by omega) _ _
  refine ⟨b, L.below b, h.ex.other _ _ (by show w.heap.size ≠ A; omega), by rw [← textsL_step x k hk]; exact h.tx.set k _, h.pt.other _ _ (fun e => h.ab e.symm), h.st.other _ _ (fun e => h.as_ e.symm), ?_, h.far, h.ab, h.as_, h.ac⟩
  exact ⟨(Below.heap_setCell _ _ _ _ (by show C ≠ A; omega)).trans h.six.months, (Below.heap_setCell _ _ _ _ (by show C + 1 ≠ A; omega)).trans h.six.days, (Below.heap_setCell _ _ _ _ (by show C + 1 + 1 ≠ A; omega)).trans h.six.kinds⟩
/-- .. and a kind in block p -/
structure PK (w : World) (x : Exp.Ex) (k A B S C p : Nat) (v : Value) (W : World) : Prop where
  pl : PL w x k A B S C W
  kd : Row W p 75 [.int .i64 (kd6 k).lo, .int .i64 (kd6 k).hi, v, .bool (kd6 k).week]
  sk : IsStrs W v (xs6 k)
  pa : p ≠ A
theorem PK.next {w W W' : World} {x : Exp.Ex} {k A B S C p : Nat} {v : Value} (h : PK w x k A B S C p v W) (hb : Below W.heap.size W W') : PK w x k A B S C p v W' := ⟨h.pl.next hb, h.kd.below hb, h.sk.below hb, h.pa⟩
theorem PK.drew {w W : World} {x : Exp.Ex} {k A B S C p : Nat} {v : Value} (h : PK w x k A B S C p v W) : PK w x k A B S C p v W.drew := h.next (Below.refl _ _).drew
theorem PK.stored {w W : World} {x : Exp.Ex} {k A B S C p : Nat} {v : Value} (h : PK w x k A B S C p v W) (hk : k < 6) (u : Value) :
    (W.setCell ⟨A, k, none⟩ u).cell? ⟨p, 0, none⟩ = some (.int .i64 (kd6 k).lo) ∧ (W.setCell ⟨A, k, none⟩ u).cell? ⟨p, 1, none⟩ = some (.int .i64 (kd6 k).hi) ∧ (W.setCell ⟨A, k, none⟩ u).cell? ⟨p, 2, none⟩ = some v ∧ (W.setCell ⟨A, k, none⟩ u).cell? ⟨p, 3, none⟩ = some (.bool (kd6 k).week) ∧
    (W.setCell ⟨A, k, none⟩ u).cell? ⟨w.heap.size, k, none⟩ = some (.int .u64 (x.at k)) ∧ (W.setCell ⟨A, k, none⟩ u).cell? ⟨B, k, none⟩ = some (.pointer (some ⟨w.heap.size, k, none⟩)) ∧ (W.setCell ⟨A, k, none⟩ u).cell? ⟨S, k, none⟩ = some (.bool (x.star k)) := by
  have far := h.pl.far
  have kd := h.kd.other ⟨A, k, none⟩ u h.pa
  exact ⟨kd.cell 0, kd.cell 1, kd.cell 2, kd.cell 3, ((h.pl.ex.other ⟨A, k, none⟩ u (by show w.heap.size ≠ A; omega)).cell k).trans (exL_at x k hk), ((h.pl.pt.other ⟨A, k, none⟩ u (fun e => h.pl.ab e.symm)).cell k).trans (ptrL_at w.heap.size k hk), ((h.pl.st.other ⟨A, k, none⟩ u (fun e => h.pl.as_ e.symm)).cell k).trans (starsL_at x k hk)⟩
theorem PK.print {w W : World} {x : Exp.Ex} {k A B S C p : Nat} {v : Value} (h : PK w x k A B S C p v W) (hk : k < 6) (hx : x.Ok) :
    Calls Tryz.prog 51 #[.agg #[.int .i64 (kd6 k).lo, .int .i64 (kd6 k).hi, v, .bool (kd6 k).week], .int .u64 (x.at k), .bool (x.star k)] W fun r W' => r = .returned (.tuple #[.string ⟨(x.ft k).toArray⟩, .int .i64 0]) ∧ PK w x k A B S C p v W' := by
  have c := print_yes (kd6 k) v (xs6 k) (x.at k) (x.star k) W h.pl.lay h.sk (kd6_is k hk) (Exp.at_lt hx hk)
  rw [Exp.ft_is hx hk] at c
  exact c.mono fun _ _ ⟨h1, h2⟩ => ⟨h1, h.next h2⟩

set_option maxRecDepth 100000 in
set_option maxHeartbeats 4000000 in
theorem print_exno (x : Exp.Ex) (hx : x.Bd) (hk : x.okB = false) (w : World) :
    Calls Tryz.prog 19 #[.agg #[.int .u64 x.a0, .int .u64 x.a1, .int .u64 x.a2, .int .u64 x.a3, .int .u64 x.a4, .int .u64 x.a5, .bool x.b3, .bool x.b5]] w fun e w' => e = .returned (.tuple #[.string ⟨#[]⟩, .int .i64 16]) ∧ Below w.heap.size w w' := by
  have CK := Lib.hid (fun w => check_ex x hx w)
  have B0 := Lib.hid ((Below.refl w.heap.size w).alloc (Nat.le_refl _) (.cells (exL x).toArray 25))
  rw [hk] at CK
  clear hx hk
  go_enter Tryz.func19, Tryz.ntmps19
  go_wp2_with fail
  refine (CK.out _).mono ?_
  rintro e w1 ⟨rfl, hb⟩
  have HB := Lib.hid (B0.out.trans (hb.mono (by simp)))
  have e16 : errOk false = 16 := rfl
  clear hb
  go_wp2_with fail
  go_ret2
  exact ⟨rfl, HB.out⟩
set_option maxRecDepth 100000 in
set_option maxHeartbeats 4000000 in
theorem print_exyes (x : Exp.Ex) (hx : x.Ok) (w : World) (L : Lay w) :
    Calls Tryz.prog 19 #[.agg #[.int .u64 x.a0, .int .u64 x.a1, .int .u64 x.a2, .int .u64 x.a3, .int .u64 x.a4, .int .u64 x.a5, .bool x.b3, .bool x.b5]] w fun e w' => e = .returned (.tuple #[.string ⟨x.text.toArray⟩, .int .i64 0]) ∧ Below w.heap.size w w' := by
  have hbd : x.Bd := fun i hi => Exp.at_lt hx hi
  have CK := Lib.hid (fun w => check_ex x hbd w)
  have E0 : Row (w.alloc (.cells (exL x).toArray 25)) w.heap.size 25 (exL x) := Row.new w _ _
  have B0 := Lib.hid ((Below.refl w.heap.size w).alloc (Nat.le_refl _) (.cells (exL x).toArray 25))
  have HE0 := Lib.hid E0
  rw [Exp.okB_iff.2 hx] at CK
  have HX := Lib.hid hx
  clear hbd hx E0
  go_enter Tryz.func19, Tryz.ntmps19
  go_wp2_with fail
  refine (CK.out _).mono ?_
  rintro e w1 ⟨rfl, hb⟩
  have HB := Lib.hid (B0.out.trans (hb.mono (by simp)))
  have HE := Lib.hid (HE0.out.below hb)
  have e0 : errOk true = 0 := rfl
  clear hb
  have MK : ∀ W, (Instr.makeSlice 44 (.int .i64 6) (.int .i64 6)).run Tryz.prog W = .ok (.slice (some ⟨W.heap.size, 0, none⟩) 6 6) (W.alloc (.cells #[.string ⟨#[]⟩, .string ⟨#[]⟩, .string ⟨#[]⟩, .string ⟨#[]⟩, .string ⟨#[]⟩, .string ⟨#[]⟩] 9)) := fun W => by kernel_rfl
  go_wp2_with fail
  refine wp_region_inv (PAInv w x) (by kernel_rfl) ?i0 ?step ?last ?topo
  case i0 =>
    refine ⟨_, _, _, _, _, _, _, rfl, ⟨HB.out.drew, HE.out.drew, ?_, ?_, ?_, ?_, ?_, ?_, ?_, ?_, ?_, ?_, ?_, ?_, ?_⟩⟩ <;> (intro h; cases h)
  case topo => kernel_rfl
  case step =>
    intro i o g a W ho hI hg hdep K' hK
    obtain ⟨v5, v6, v7, v15, v16, v17, v18, rfl, hP⟩ := hI
    have hi : i < 9 := (Array.getElem?_eq_some_iff.1 ho).1
    rcases (show i = 0 ∨ i = 1 ∨ i = 2 ∨ i = 3 ∨ i = 4 ∨ i = 5 ∨ i = 6 ∨ i = 7 ∨ i = 8 by omega) with rfl | rfl | rfl | rfl | rfl | rfl | rfl | rfl | rfl
    · simp only [List.getElem?_toArray, List.getElem?_cons_zero, Option.some.injEq] at ho
      subst ho
      clear hdep
      have P1 := hP.next ((Below.refl _ W).alloc (Nat.le_refl _) (.cells #[.string ⟨#[]⟩, .string ⟨#[]⟩, .string ⟨#[]⟩, .string ⟨#[]⟩, .string ⟨#[]⟩, .string ⟨#[]⟩] 9))
      have NW := Row.new W [.string ⟨#[]⟩, .string ⟨#[]⟩, .string ⟨#[]⟩, .string ⟨#[]⟩, .string ⟨#[]⟩, .string ⟨#[]⟩] 9
      have lt := hP.ex.lt
      have old4 := hP.h4
      have old5 := hP.h5
      clear hP
      go_simp
      refine hK.out _ _ ⟨_, _, _, _, _, _, _, rfl, ⟨P1.below, P1.ex, fun _ => ⟨_, rfl, NW, lt⟩, P1.h1, P1.h2, P1.h3, P1.h4, P1.h5, fun h => by (rw [P1.m6 h] at hg; cases hg), fun _ => rfl, P1.m7, P1.m8, fun _ h A B e1 e2 => by (obtain ⟨B', e, r, _⟩ := old4 h; rw [e] at e2; cases e1; cases e2; have := r.lt; omega), fun _ h A B e1 e2 => by (obtain ⟨B', e, r, _⟩ := old5 h; rw [e] at e2; cases e1; cases e2; have := r.lt; omega), P1.d45⟩⟩
    · simp only [List.getElem?_toArray, List.getElem?_cons_zero, List.getElem?_cons_succ, Option.some.injEq] at ho
      subst ho
      clear hdep
      go_simp
      refine (fields_any _ _).mono ?_
      rintro e W2 ⟨rfl, hb⟩
      have P1 := hP.next hb
      clear hP hb
      go_simp
      refine hK.out _ _ ⟨_, _, _, _, _, _, _, rfl, ⟨P1.below, P1.ex, P1.h0, fun _ => rfl, P1.h2, P1.h3, P1.h4, P1.h5, P1.h6, P1.m6, P1.m7, P1.m8, P1.d04, P1.d05, P1.d45⟩⟩
    · simp only [List.getElem?_toArray, List.getElem?_cons_zero, List.getElem?_cons_succ, Option.some.injEq] at ho
      subst ho
      clear hdep
      have P1 := hP
      have e0 := hP.ex.cell 0; have e1 := hP.ex.cell 1; have e2 := hP.ex.cell 2; have e3 := hP.ex.cell 3; have e4 := hP.ex.cell 4; have e5 := hP.ex.cell 5; have e6 := hP.ex.cell 6; have e7 := hP.ex.cell 7
      simp only [exL, List.getElem?_cons_zero, List.getElem?_cons_succ] at e0 e1 e2 e3 e4 e5 e6 e7
      clear hP
      go_simp
      refine hK.out _ _ ⟨_, _, _, _, _, _, _, rfl, ⟨P1.below, P1.ex, P1.h0, P1.h1, fun _ => rfl, P1.h3, P1.h4, P1.h5, P1.h6, P1.m6, P1.m7, P1.m8, P1.d04, P1.d05, P1.d45⟩⟩
    · simp only [List.getElem?_toArray, List.getElem?_cons_zero, List.getElem?_cons_succ, Option.some.injEq] at ho
      subst ho
      have d2 := hdep ⟨2, .data⟩ (by simp) rfl
      have e17 := hP.h2 d2
      subst e17
      clear hdep d2
      unfold exV
      go_simp
      refine (stars_any x _).mono ?_
      rintro e W2 ⟨rfl, hb⟩
      have P1 := hP.next hb
      clear hP hb
      go_simp
      refine hK.out _ _ ⟨_, _, _, _, _, _, _, rfl, ⟨P1.below, P1.ex, P1.h0, P1.h1, P1.h2, fun _ => rfl, P1.h4, P1.h5, P1.h6, P1.m6, P1.m7, P1.m8, P1.d04, P1.d05, P1.d45⟩⟩
    · simp only [List.getElem?_toArray, List.getElem?_cons_zero, List.getElem?_cons_succ, Option.some.injEq] at ho
      subst ho
      clear hdep
      have P1 := hP.next ((Below.refl _ W).alloc (Nat.le_refl _) (.cells #[.pointer none, .pointer none, .pointer none, .pointer none, .pointer none, .pointer none] 104))
      have NW := Row.new W [.pointer none, .pointer none, .pointer none, .pointer none, .pointer none, .pointer none] 104
      have lt := hP.ex.lt
      have old0 := hP.h0
      have oldo := hP.h5
      have g7 : g 7 = false := by
        cases e : g 7 with
        | false => rfl
        | true => rw [hP.m7 e] at hg; cases hg
      clear hP
      go_simp
      refine hK.out _ _ ⟨_, _, _, _, _, _, _, rfl, ⟨P1.below, P1.ex, P1.h0, P1.h1, P1.h2, P1.h3, fun _ => ⟨_, rfl, by (show Row _ _ _ (if g 7 = true then _ else _); rw [g7, if_neg (by simp)]; exact NW), lt⟩, P1.h5, P1.h6, P1.m6, fun _ => rfl, P1.m8, fun h _ A B e1 e2 => by (obtain ⟨B', e, r, _⟩ := old0 h; rw [e] at e1; cases e1; cases e2; have := r.lt; omega), P1.d05, fun _ h A B e1 e2 => by (obtain ⟨B', e, r, _⟩ := oldo h; rw [e] at e2; cases e1; cases e2; have := r.lt; omega)⟩⟩
    · simp only [List.getElem?_toArray, List.getElem?_cons_zero, List.getElem?_cons_succ, Option.some.injEq] at ho
      subst ho
      clear hdep
      have P1 := hP.next ((Below.refl _ W).alloc (Nat.le_refl _) (.cells #[.bool false, .bool false, .bool false, .bool false, .bool false, .bool false] 107))
      have NW := Row.new W [.bool false, .bool false, .bool false, .bool false, .bool false, .bool false] 107
      have lt := hP.ex.lt
      have old0 := hP.h0
      have oldo := hP.h4
      have g8 : g 8 = false := by
        cases e : g 8 with
        | false => rfl
        | true => rw [hP.m8 e] at hg; cases hg
      clear hP
      go_simp
      refine hK.out _ _ ⟨_, _, _, _, _, _, _, rfl, ⟨P1.below, P1.ex, P1.h0, P1.h1, P1.h2, P1.h3, P1.h4, fun _ => ⟨_, rfl, by (show Row _ _ _ (if g 8 = true then _ else _); rw [g8, if_neg (by simp)]; exact NW), lt⟩, P1.h6, P1.m6, P1.m7, fun _ => rfl, P1.d04, fun h _ A B e1 e2 => by (obtain ⟨B', e, r, _⟩ := old0 h; rw [e] at e1; cases e1; cases e2; have := r.lt; omega), fun h _ A B e1 e2 => by (obtain ⟨B', e, r, _⟩ := oldo h; rw [e] at e1; cases e1; cases e2; have := r.lt; omega)⟩⟩
    · simp only [List.getElem?_toArray, List.getElem?_cons_zero, List.getElem?_cons_succ, Option.some.injEq] at ho
      subst ho
      have d0 := hdep ⟨0, .data⟩ (by simp) rfl
      have P1 := hP
      clear hdep hP
      go_simp
      refine hK.out _ _ ⟨_, _, _, _, _, _, _, rfl, ⟨P1.below, P1.ex, P1.h0, P1.h1, P1.h2, P1.h3, P1.h4, P1.h5, fun _ => rfl, fun _ => d0, P1.m7, P1.m8, P1.d04, P1.d05, P1.d45⟩⟩
    · simp only [List.getElem?_toArray, List.getElem?_cons_zero, List.getElem?_cons_succ, Option.some.injEq] at ho
      subst ho
      have dm := hdep ⟨4, .data⟩ (by simp) rfl
      have dv := hdep ⟨1, .data⟩ (by simp) rfl
      obtain ⟨B, e6, r, lB⟩ := hP.h4 dm
      have e16 := hP.h1 dv
      have ng : g 7 = false := hg
      rw [ng, if_neg (by simp)] at r
      subst e6 e16
      have f0 := r.free 0; have f1 := r.free 1; have f2 := r.free 2; have f3 := r.free 3; have f4 := r.free 4; have f5 := r.free 5
      have c0 := r.cell 0; have c1 := r.cell 1; have c2 := r.cell 2; have c3 := r.cell 3; have c4 := r.cell 4; have c5 := r.cell 5
      simp only [List.getElem?_cons_zero, List.getElem?_cons_succ] at c0 c1 c2 c3 c4 c5
      have R := set6_row r (.pointer (some ⟨w.heap.size, 0, none⟩)) (.pointer (some ⟨w.heap.size, 1, none⟩)) (.pointer (some ⟨w.heap.size, 2, none⟩)) (.pointer (some ⟨w.heap.size, 3, none⟩)) (.pointer (some ⟨w.heap.size, 4, none⟩)) (.pointer (some ⟨w.heap.size, 5, none⟩))
      have G := set6_grown W B (.pointer (some ⟨w.heap.size, 0, none⟩)) (.pointer (some ⟨w.heap.size, 1, none⟩)) (.pointer (some ⟨w.heap.size, 2, none⟩)) (.pointer (some ⟨w.heap.size, 3, none⟩)) (.pointer (some ⟨w.heap.size, 4, none⟩)) (.pointer (some ⟨w.heap.size, 5, none⟩))
      have PB := hP.below.grown G hP.below.size (fun k e => by cases e; omega)
      have PE := hP.ex.grown G (by omega)
      have P0 := fun h => move_s G (hP.h0 h) (fun A e => hP.d04 h dm A B e rfl)
      have PO := fun h => move_p G (hP.h5 h) (fun A e => fun e' => hP.d45 dm h B A rfl e e'.symm)
      have P1 := hP
      clear hdep hP
      unfold ptrL
      go_simp
      refine hK.out _ _ ⟨_, _, _, _, _, _, _, rfl, ⟨PB, PE, P0, P1.h1, P1.h2, P1.h3, fun _ => ⟨B, rfl, R, lB⟩, PO, P1.h6, P1.m6, fun _ => dm, P1.m8, P1.d04, P1.d05, P1.d45⟩⟩
    · simp only [List.getElem?_toArray, List.getElem?_cons_zero, List.getElem?_cons_succ, Option.some.injEq] at ho
      subst ho
      have dm := hdep ⟨5, .data⟩ (by simp) rfl
      have dv := hdep ⟨3, .data⟩ (by simp) rfl
      obtain ⟨B, e6, r, lB⟩ := hP.h5 dm
      have e16 := hP.h3 dv
      have ng : g 8 = false := hg
      rw [ng, if_neg (by simp)] at r
      subst e6 e16
      have f0 := r.free 0; have f1 := r.free 1; have f2 := r.free 2; have f3 := r.free 3; have f4 := r.free 4; have f5 := r.free 5
      have c0 := r.cell 0; have c1 := r.cell 1; have c2 := r.cell 2; have c3 := r.cell 3; have c4 := r.cell 4; have c5 := r.cell 5
      simp only [List.getElem?_cons_zero, List.getElem?_cons_succ] at c0 c1 c2 c3 c4 c5
      have R := set6_row r (.bool (x.star 0)) (.bool (x.star 1)) (.bool (x.star 2)) (.bool (x.star 3)) (.bool (x.star 4)) (.bool (x.star 5))
      have G := set6_grown W B (.bool (x.star 0)) (.bool (x.star 1)) (.bool (x.star 2)) (.bool (x.star 3)) (.bool (x.star 4)) (.bool (x.star 5))
      have PB := hP.below.grown G hP.below.size (fun k e => by cases e; omega)
      have PE := hP.ex.grown G (by omega)
      have P0 := fun h => move_s G (hP.h0 h) (fun A e => hP.d05 h dm A B e rfl)
      have PO := fun h => move_p G (hP.h4 h) (fun A e => fun e' => hP.d45 h dm A B e rfl e')
      have P1 := hP
      clear hdep hP
      go_simp
      refine hK.out _ _ ⟨_, _, _, _, _, _, _, rfl, ⟨PB, PE, P0, P1.h1, P1.h2, P1.h3, PO, fun _ => ⟨B, rfl, R, lB⟩, P1.h6, P1.m6, P1.m7, fun _ => dm, P1.d04, P1.d05, P1.d45⟩⟩
  case last =>
    intro g a W hI hall
    obtain ⟨v5, v6, v7, v15, v16, v17, v18, rfl, hP⟩ := hI
    obtain ⟨A, e15, rA, lA⟩ := hP.h0 (hall 0 (by decide))
    obtain ⟨B, e6, rB, lB⟩ := hP.h4 (hall 4 (by decide))
    obtain ⟨S, e7, rS, lS⟩ := hP.h5 (hall 5 (by decide))
    have e5 := hP.h6 (hall 6 (by decide))
    rw [hall 7 (by decide), if_pos rfl] at rB
    rw [hall 8 (by decide), if_pos rfl] at rS
    have nAB := hP.d04 (hall 0 (by decide)) (hall 4 (by decide)) A B e15 e6
    have nAS := hP.d05 (hall 0 (by decide)) (hall 5 (by decide)) A S e15 e7
    rw [e15] at e5
    subst e15 e6 e7 e5
    have HQ := Lib.hid (show Below w.heap.size w W ∧ Row W w.heap.size 25 (exL x) ∧ Row W A 9 (textsL x 0) ∧ Row W B 104 (ptrL w.heap.size) ∧ Row W S 107 (starsL x) ∧ w.heap.size < A ∧ A ≠ B ∧ A ≠ S from ⟨hP.below, hP.ex, rA, rB, rS, lA, nAB, nAS⟩)
    have lAW := rA.lt
    clear hP hall rA rB rS nAB nAS HB HE
    go_wp2_with fail
    refine (specs_any _).mono ?_
    rintro e W2 ⟨rfl, hb, h6⟩
    obtain ⟨q1, q2, q3, q4, q5, q6, q7, q8⟩ := HQ.out
    have PL0 : PL w x 0 A B S W.heap.size W2 := ⟨q1.trans (hb.mono q1.size), L.below (q1.trans (hb.mono q1.size)), q2.below hb, q3.below hb, q4.below hb, q5.below hb, h6, q6, q7, q8, lAW⟩
    have HP := Lib.hid PL0
    obtain ⟨C, hC⟩ : ∃ C, W.heap.size = C := ⟨_, rfl⟩
    rw [hC] at HP ⊢
    clear q1 q2 q3 q4 q5 q6 q7 q8 hb h6 HQ PL0 lAW hC
    go_wp2_with fail
    go_loopw [21] (fun i wr => ∃ k : Nat, k ≤ 6 ∧ i = .int .i64 k ∧ Hid (PL w x k A B S C wr)) (fun i _ => 6 - (intOf i).toNat)
    case atStart => exact ⟨0, Nat.zero_le _, rfl, HP⟩
    case round =>
      obtain ⟨k, hk, rfl, hc⟩ := hrel
      by_cases hlt : k < 6
      · obtain ⟨c0, c1, c2, c3⟩ := hc.out.six.at_ k hlt
        have SK := Lib.hid (hc.out.six.strs k hlt)
        obtain ⟨A', L', C', e, _⟩ := na6_slice C k hlt
        rw [e] at c2 SK
        have q1 : decide ((k : Int) < 6) = true := by rw [decide_eq_true_iff]; omega
        have q1n : decide (k < 6) = true := by rw [decide_eq_true_iff]; omega
        have i0 : (0 : Int) ≤ (k : Int) := by omega
        have i1 : (k : Int) < 6 := by omega
        have bp : Below wr.heap.size wr (wr.alloc (.cells #[.int .i64 (kd6 k).lo, .int .i64 (kd6 k).hi, .slice A' L' C', .bool (kd6 k).week] 75)) := (Below.refl _ _).alloc (Nat.le_refl _) _
        have hA := hc.out.tx.lt
        have PK0 : PK w x k A B S C wr.heap.size (.slice A' L' C') (wr.alloc (.cells #[.int .i64 (kd6 k).lo, .int .i64 (kd6 k).hi, .slice A' L' C', .bool (kd6 k).week] 75)) :=
          ⟨hc.out.next bp, Row.new wr [.int .i64 (kd6 k).lo, .int .i64 (kd6 k).hi, .slice A' L' C', .bool (kd6 k).week] _, SK.out.below bp, by omega⟩
        obtain ⟨p, hp⟩ : ∃ p, wr.heap.size = p := ⟨_, rfl⟩
        rw [hp] at PK0
        have Q := Lib.hid PK0
        clear e SK bp hA
        go_wp2_with fail
        obtain ⟨W3, hW3⟩ : ∃ W3, wr.alloc (.cells #[.int .i64 (kd6 k).lo, .int .i64 (kd6 k).hi, .slice A' L' C', .bool (kd6 k).week] 75) = W3 := ⟨_, rfl⟩
        rw [hW3] at Q PK0 ⊢
        have k0 := PK0.kd.cell 0; have k1 := PK0.kd.cell 1; have k2 := PK0.kd.cell 2; have k3 := PK0.kd.cell 3
        have s0 := (PK0.pl.ex.cell k).trans (exL_at x k hlt)
        have s1 := (PK0.pl.pt.cell k).trans (ptrL_at w.heap.size k hlt)
        have s2 := (PK0.pl.st.cell k).trans (starsL_at x k hlt)
        have s3 := (PK0.pl.tx.cell k).trans (textsL_at x k hlt)
        have s4 := PK0.pl.tx.free k
        simp only [List.getElem?_cons_zero, List.getElem?_cons_succ] at k0 k1 k2 k3
        clear PK0 hW3 hp c0 c1 c2 c3 hc
        go_region_held3 (fun w' => w'.cell? ⟨p, 0, none⟩ = some (.int .i64 (kd6 k).lo) ∧ w'.cell? ⟨p, 1, none⟩ = some (.int .i64 (kd6 k).hi) ∧ w'.cell? ⟨p, 2, none⟩ = some (.slice A' L' C') ∧ w'.cell? ⟨p, 3, none⟩ = some (.bool (kd6 k).week) ∧ w'.cell? ⟨w.heap.size, k, none⟩ = some (.int .u64 (x.at k)) ∧ w'.cell? ⟨B, k, none⟩ = some (.pointer (some ⟨w.heap.size, k, none⟩)) ∧ w'.cell? ⟨S, k, none⟩ = some (.bool (x.star k))) (first | exact KE.out _ | go_keep)
          ((go_at_call 51; refine (PK.print (by first | exact Q.out | exact Q.out.drew) hlt HX.out).mono ?_; rintro e w20 ⟨rfl, q'⟩; have Q := Lib.hid q'; have k0 := q'.kd.cell 0; have k1 := q'.kd.cell 1; have k2 := q'.kd.cell 2; have k3 := q'.kd.cell 3; have s0 := (q'.pl.ex.cell k).trans (exL_at x k hlt); have s1 := (q'.pl.pt.cell k).trans (ptrL_at w.heap.size k hlt); have s2 := (q'.pl.st.cell k).trans (starsL_at x k hlt); have s3 := (q'.pl.tx.cell k).trans (textsL_at x k hlt); have s4 := q'.pl.tx.free k; simp only [List.getElem?_cons_zero, List.getElem?_cons_succ] at k0 k1 k2 k3; have KE := Lib.hid (q'.stored hlt); clear q'))
        go_wp2_with fail
        go_roundw
        case rel => exact ⟨k + 1, by omega, by go_num, Lib.hid (Q.out.pl.set L hlt)⟩
        case measure => simp [intOf]; omega
      · obtain rfl : k = 6 := by omega
        have tc : ∀ j, j < 6 → wr.cell? ⟨A, j, none⟩ = some (.string ⟨(x.ft j).toArray⟩) := fun j hj => (hc.out.tx.cell j).trans (six_cases hj (P := fun j => (textsL x 6)[j]? = some (.string ⟨(x.ft j).toArray⟩)) rfl rfl rfl rfl rfl rfl)
        have t0 := tc 0 (by decide)
        have HT := Lib.hid tc
        have hA := Lib.hid hc.out.tx.lt
        have BW := Lib.hid hc.out.below
        have z := Exp.ft_zero HX.out
        have TL := Lib.hid (Exp.text_len x)
        obtain ⟨T0, hT0⟩ : ∃ T : ByteArray, (⟨(x.ft 0).toArray⟩ : ByteArray) = T := ⟨_, rfl⟩
        have eT : T0.toList = x.ft 0 := by rw [← hT0, ByteArray.toList_eq]
        rw [hT0] at t0
        clear hT0 tc hc
        by_cases q : x.a0 = 1
        · have u1 : (T0.toList == [48]) = true := by rw [eT, z.2 q]; rfl
          have u2 : (T0.toList == (⟨#[48]⟩ : ByteArray).toList) = true := by rw [eT, z.2 q, ByteArray.toList_eq]; rfl
          have hst : ∀ (j : Nat) (y : ByteArray), ([⟨(x.ft 1).toArray⟩, ⟨(x.ft 2).toArray⟩, ⟨(x.ft 3).toArray⟩, ⟨(x.ft 4).toArray⟩, ⟨(x.ft 5).toArray⟩] : List ByteArray)[j]? = some y → wr.cell? ⟨A, 1 + j, none⟩ = some (.string y) := by
            intro j y hy
            match j, hy with
            | 0, hy => cases hy; exact HT.out 1 (by decide)
            | 1, hy => cases hy; exact HT.out 2 (by decide)
            | 2, hy => cases hy; exact HT.out 3 (by decide)
            | 3, hy => cases hy; exact HT.out 4 (by decide)
            | 4, hy => cases hy; exact HT.out 5 (by decide)
          have hj : Lib.join (([⟨(x.ft 1).toArray⟩, ⟨(x.ft 2).toArray⟩, ⟨(x.ft 3).toArray⟩, ⟨(x.ft 4).toArray⟩, ⟨(x.ft 5).toArray⟩] : List ByteArray).map (·.data.toList)) (⟨#[32]⟩ : ByteArray).data.toList = x.text := by
            rw [Exp.join_L]
            unfold Exp.Ex.text Exp.Ex.ws
            rw [if_pos q]
            rfl
          have J := Tryz.strings_Join A 1 5 [⟨(x.ft 1).toArray⟩, ⟨(x.ft 2).toArray⟩, ⟨(x.ft 3).toArray⟩, ⟨(x.ft 4).toArray⟩, ⟨(x.ft 5).toArray⟩] ⟨#[32]⟩ wr hst hA.out (by simp) (by simp) (by rw [hj]; have := TL.out; omega)
          rw [hj] at J
          have J := Lib.hid J
          clear hst hj z eT q
          go_wp2_with fail
          refine J.out.mono ?_
          rintro e w4 ⟨rfl, hb⟩
          have BB := Lib.hid (BW.out.trans (hb.mono BW.out.size))
          clear hb
          go_wp2_with fail
          go_ret2
          exact ⟨rfl, BB.out⟩
        · have u1 : (T0.toList == [48]) = false := by rw [eT, beq_eq_false_iff_ne]; exact fun e => q (z.1 e)
          have u2 : (T0.toList == (⟨#[48]⟩ : ByteArray).toList) = false := by rw [ByteArray.toList_eq ⟨#[48]⟩]; exact u1
          have hst : ∀ (j : Nat) (y : ByteArray), ([⟨(x.ft 0).toArray⟩, ⟨(x.ft 1).toArray⟩, ⟨(x.ft 2).toArray⟩, ⟨(x.ft 3).toArray⟩, ⟨(x.ft 4).toArray⟩, ⟨(x.ft 5).toArray⟩] : List ByteArray)[j]? = some y → wr.cell? ⟨A, 0 + j, none⟩ = some (.string y) := by
            intro j y hy
            match j, hy with
            | 0, hy => cases hy; exact HT.out 0 (by decide)
            | 1, hy => cases hy; exact HT.out 1 (by decide)
            | 2, hy => cases hy; exact HT.out 2 (by decide)
            | 3, hy => cases hy; exact HT.out 3 (by decide)
            | 4, hy => cases hy; exact HT.out 4 (by decide)
            | 5, hy => cases hy; exact HT.out 5 (by decide)
          have hj : Lib.join (([⟨(x.ft 0).toArray⟩, ⟨(x.ft 1).toArray⟩, ⟨(x.ft 2).toArray⟩, ⟨(x.ft 3).toArray⟩, ⟨(x.ft 4).toArray⟩, ⟨(x.ft 5).toArray⟩] : List ByteArray).map (·.data.toList)) (⟨#[32]⟩ : ByteArray).data.toList = x.text := by
            rw [Exp.join_L]
            unfold Exp.Ex.text Exp.Ex.ws
            rw [if_neg q]
            rfl
          have J := Tryz.strings_Join A 0 6 [⟨(x.ft 0).toArray⟩, ⟨(x.ft 1).toArray⟩, ⟨(x.ft 2).toArray⟩, ⟨(x.ft 3).toArray⟩, ⟨(x.ft 4).toArray⟩, ⟨(x.ft 5).toArray⟩] ⟨#[32]⟩ wr hst hA.out (by simp) (by simp) (by rw [hj]; have := TL.out; omega)
          rw [hj] at J
          have J := Lib.hid J
          clear hst hj z eT q
          go_wp2_with fail
          refine J.out.mono ?_
          rintro e w4 ⟨rfl, hb⟩
          have BB := Lib.hid (BW.out.trans (hb.mono BW.out.size))
          clear hb
          go_wp2_with fail
          go_ret2
          exact ⟨rfl, BB.out⟩
/-- what Print returns for any expression -/
theorem print_any (x : Exp.Ex) (hx : x.Bd) (w : World) (L : Lay w) :
    Calls Tryz.prog 19 #[.agg #[.int .u64 x.a0, .int .u64 x.a1, .int .u64 x.a2, .int .u64 x.a3, .int .u64 x.a4, .int .u64 x.a5, .bool x.b3, .bool x.b5]] w fun e w' => e = .returned (.tuple #[.string ⟨(if x.okB = true then x.text else []).toArray⟩, .int .i64 (errOk x.okB)]) ∧ Below w.heap.size w w' := by
  cases h : x.okB with
  | true => rw [if_pos rfl]; exact print_exyes x (Exp.okB_iff.1 h) w L
  | false => rw [if_neg (by simp)]; exact print_exno x hx h w
end Go.Proofs.YtpnfifhanmpapaaGreatDoor
