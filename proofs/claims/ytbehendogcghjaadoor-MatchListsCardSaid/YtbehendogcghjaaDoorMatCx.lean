/- The context of a statement of stage 8: expressions in boxes, the tables; the calls of package match in it. -/
import Derived.Test.YtbehendogcghjaaDoorMatW
import Derived.Test.YtbehendogcghjaaDoorMatLaid
import Derived.Deep.RegionHeld3
namespace Go.Proofs.YtbehendogcghjaaDoor
open Go.ChangeShapes Go.RowKit Go.Shelf

structure MC (w : World) (l : List (Nat × Exp.Ex)) (W : World) : Prop where
  below : Below w.heap.size w W
  lay : LayM W
  rows : ∀ p ∈ l, Row W p.1 24 (exL p.2)
theorem MC.next {w W W' : World} {l : List (Nat × Exp.Ex)} (h : MC w l W) (hb : Below W.heap.size W W') : MC w l W' := ⟨h.below.trans (hb.mono h.below.size), h.lay.below hb, fun p hp => (h.rows p hp).below hb⟩
theorem MC.drew {w W : World} {l : List (Nat × Exp.Ex)} (h : MC w l W) : MC w l W.drew := h.next (Below.refl _ _).drew
theorem MC.drewN {w W : World} {l : List (Nat × Exp.Ex)} (h : MC w l W) (n : Nat) : MC w l (W.drewN n) := h.next (below_drewN _ W n)
theorem MC.alloc {w W : World} {l : List (Nat × Exp.Ex)} (h : MC w l W) (o : Obj) : MC w l (W.alloc o) := h.next ((Below.refl _ _).alloc (Nat.le_refl _) o)
theorem MC.box {w W : World} {l : List (Nat × Exp.Ex)} (h : MC w l W) (x : Exp.Ex) : MC w ((W.heap.size, x) :: l) (W.alloc (.cells #[.int .u64 x.a0, .int .u64 x.a1, .int .u64 x.a2, .int .u64 x.a3, .int .u64 x.a4, .int .u64 x.a5, .bool x.b3, .bool x.b5] 24)) := by
  refine ⟨(h.alloc _).below, (h.alloc _).lay, fun p hp => ?_⟩
  rcases List.mem_cons.1 hp with rfl | hp
  · exact Row.new W (exL x) _
  · exact (h.rows p hp).alloc _
theorem MC.start {w : World} (L : LayM w) : MC w [] w := ⟨Below.refl _ _, L, fun _ h => by cases h⟩
theorem MC.cells {w W : World} {l : List (Nat × Exp.Ex)} (h : MC w l W) (B : Nat) (x : Exp.Ex) (hm : (B, x) ∈ l) : W.cell? ⟨B, 0, none⟩ = some (.int .u64 x.a0) ∧ W.cell? ⟨B, 1, none⟩ = some (.int .u64 x.a1) ∧ W.cell? ⟨B, 2, none⟩ = some (.int .u64 x.a2) ∧ W.cell? ⟨B, 3, none⟩ = some (.int .u64 x.a3) ∧ W.cell? ⟨B, 4, none⟩ = some (.int .u64 x.a4) ∧ W.cell? ⟨B, 5, none⟩ = some (.int .u64 x.a5) ∧ W.cell? ⟨B, 6, none⟩ = some (.bool x.b3) ∧ W.cell? ⟨B, 7, none⟩ = some (.bool x.b5) := by
  have r := h.rows _ hm
  exact ⟨r.cell 0, r.cell 1, r.cell 2, r.cell 3, r.cell 4, r.cell 5, r.cell 6, r.cell 7⟩
theorem MC.put {w W : World} {B : Nat} {x : Exp.Ex} (h : MC w [(B, x)] W) (L : LayM w) (hB : w.heap.size ≤ B) (y : Exp.Ex) (i j : Nat) (u v : Value) (e : ((exL x).set i u).set j v = exL y) : MC w [(B, y)] ((W.setCell ⟨B, i, none⟩ u).setCell ⟨B, j, none⟩ v) := by
  have b := (h.below.setCell (p := ⟨B, i, none⟩) hB u).setCell (p := ⟨B, j, none⟩) hB v
  refine ⟨b, L.below b, fun p hp => ?_⟩
  obtain rfl := List.mem_singleton.1 hp
  have r := ((h.rows (B, x) (List.mem_singleton.2 rfl)).set i u).set j v
  rw [e] at r
  exact r

theorem MC.works {w W : World} {l : List (Nat × Exp.Ex)} (h : MC w l W) :
    Calls Tryd.prog 21 #[] W fun e W' => e = .returned (.bool true) ∧ MC w l W' :=
  (works_any W h.lay).mono fun _ _ ⟨h1, h2⟩ => ⟨h1, h.next h2⟩
theorem MC.day {w W : World} {l : List (Nat × Exp.Ex)} (h : MC w l W) (x : Exp.Ex) (hx : x.Bd) (z t : Int) (r : Bool) (e : Int) (hr : dayO x z t = r) (he : errC x z [t] = e) :
    Calls Tryd.prog 15 #[.agg #[.int .u64 x.a0, .int .u64 x.a1, .int .u64 x.a2, .int .u64 x.a3, .int .u64 x.a4, .int .u64 x.a5, .bool x.b3, .bool x.b5], .int .i64 z, .int .i64 t] W fun e' W' => e' = .returned (.tuple #[.bool r, .int .i64 e]) ∧ MC w l W' :=
  (mday_any x hx z t W h.lay).mono fun _ _ ⟨h1, h2⟩ => ⟨by rw [h1, hr, he], h.next h2⟩
theorem MC.is {w W : World} {l : List (Nat × Exp.Ex)} (h : MC w l W) (x : Exp.Ex) (hx : x.Bd) (z t : Int) (r : Bool) (e : Int) (hr : isO x z t = r) (he : errC x z [t] = e) :
    Calls Tryd.prog 17 #[.agg #[.int .u64 x.a0, .int .u64 x.a1, .int .u64 x.a2, .int .u64 x.a3, .int .u64 x.a4, .int .u64 x.a5, .bool x.b3, .bool x.b5], .int .i64 z, .int .i64 t] W fun e' W' => e' = .returned (.tuple #[.bool r, .int .i64 e]) ∧ MC w l W' :=
  (mis_any x hx z t W h.lay).mono fun _ _ ⟨h1, h2⟩ => ⟨by rw [h1, hr, he], h.next h2⟩
theorem MC.toNext {w W : World} {l : List (Nat × Exp.Ex)} (h : MC w l W) (x : Exp.Ex) (hx : x.Bd) (z t : Int) (n : Int) (r : Bool) (e : Int) (hn : (nextO x z t).getD 0 = n) (hr : (nextO x z t).isSome = r) (he : errC x z [t] = e) :
    Calls Tryd.prog 22 #[.agg #[.int .u64 x.a0, .int .u64 x.a1, .int .u64 x.a2, .int .u64 x.a3, .int .u64 x.a4, .int .u64 x.a5, .bool x.b3, .bool x.b5], .int .i64 z, .int .i64 t] W fun e' W' => e' = .returned (.tuple #[.int .i64 n, .bool r, .int .i64 e]) ∧ MC w l W' :=
  (mnext_any x hx z t W h.lay).mono fun _ _ ⟨h1, h2⟩ => ⟨by rw [h1, hn, hr, he], h.next h2⟩
theorem MC.toPrev {w W : World} {l : List (Nat × Exp.Ex)} (h : MC w l W) (x : Exp.Ex) (hx : x.Bd) (z t : Int) (n : Int) (r : Bool) (e : Int) (hn : (prevO x z t).getD 0 = n) (hr : (prevO x z t).isSome = r) (he : errC x z [t] = e) :
    Calls Tryd.prog 24 #[.agg #[.int .u64 x.a0, .int .u64 x.a1, .int .u64 x.a2, .int .u64 x.a3, .int .u64 x.a4, .int .u64 x.a5, .bool x.b3, .bool x.b5], .int .i64 z, .int .i64 t] W fun e' W' => e' = .returned (.tuple #[.int .i64 n, .bool r, .int .i64 e]) ∧ MC w l W' :=
  (mprev_any x hx z t W h.lay).mono fun _ _ ⟨h1, h2⟩ => ⟨by rw [h1, hn, hr, he], h.next h2⟩
theorem MC.ever {w W : World} {l : List (Nat × Exp.Ex)} (h : MC w l W) (x : Exp.Ex) (hx : x.Bd) (r : Bool) (e : Int) (hr : everO x = r) (he : errOk x.okB = e) :
    Calls Tryd.prog 19 #[.agg #[.int .u64 x.a0, .int .u64 x.a1, .int .u64 x.a2, .int .u64 x.a3, .int .u64 x.a4, .int .u64 x.a5, .bool x.b3, .bool x.b5]] W fun e' W' => e' = .returned (.tuple #[.bool r, .int .i64 e]) ∧ MC w l W' :=
  (mever_any x hx W h.lay).mono fun _ _ ⟨h1, h2⟩ => ⟨by rw [h1, hr, he], h.next h2⟩
theorem MC.count {w W : World} {l : List (Nat × Exp.Ex)} (h : MC w l W) (x : Exp.Ex) (hx : x.Bd) (z a b : Int) (n : Nat) (e : Int) (hn : (if errC x z [a, b] = 0 then countN x z a b else 0) = n) (he : errC x z [a, b] = e) :
    Calls Tryd.prog 30 #[.agg #[.int .u64 x.a0, .int .u64 x.a1, .int .u64 x.a2, .int .u64 x.a3, .int .u64 x.a4, .int .u64 x.a5, .bool x.b3, .bool x.b5], .int .i64 z, .int .i64 a, .int .i64 b] W fun e' W' => e' = .returned (.tuple #[.int .i64 (n : Nat), .int .i64 e]) ∧ MC w l W' :=
  (mcount_any x hx z a b W h.lay).mono fun _ _ ⟨h1, h2⟩ => ⟨by rw [h1, hn, he], h.next h2⟩

theorem isO_in {x : Exp.Ex} {z t : Int} (h : isO x z t = true) : errC x z [t] = 0 ∧ x.Lm (t + 60 * z) := by
  unfold isO at h
  split at h
  · exact ⟨by assumption, lmB_iff.1 h⟩
  · cases h
theorem isO_iff {x : Exp.Ex} {z t : Int} (h : errC x z [t] = 0) : isO x z t = true ↔ x.Lm (t + 60 * z) := by
  unfold isO; rw [if_pos h]; exact lmB_iff
theorem isO_no {x : Exp.Ex} {z t : Int} (h : errC x z [t] ≠ 0) : isO x z t = false := by unfold isO; rw [if_neg h]
theorem dayO_no {x : Exp.Ex} {z t : Int} (h : errC x z [t] ≠ 0) : dayO x z t = false := by unfold dayO; rw [if_neg h]
theorem everO_no {x : Exp.Ex} (h : x.okB = false) : everO x = false := by unfold everO; rw [if_neg (by rw [h]; simp)]
theorem inT_iff {t : Int} : inT t = true ↔ 0 ≤ t ∧ t ≤ 253402300799 := by unfold inT; simp
theorem day_of_is {x : Exp.Ex} {z t : Int} (h : isO x z t = true) : dayO x z t = true := by
  obtain ⟨e, m⟩ := isO_in h
  unfold dayO
  rw [if_pos e, Bool.and_eq_true]
  exact ⟨inT_iff.2 (lm_in m), onB_iff.2 (lm_iff.1 m).1⟩
end Go.Proofs.YtbehendogcghjaaDoor
