/- What a round of a loop over an iterator keeps: all cells but the caller's own. -/
import Derived.RangeFuncBox
import Derived.RangeFuncLeaves
import Derived.RangeFuncNested
import Derived.Test.YtbehendogcghjaaDoorExpChk
namespace Go.Proofs.YtbehendogcghjaaDoor
open Go.ChangeShapes Go.RowKit

/-- all cells but those of own blocks are kept -/
structure Kc (own : Nat → Prop) (A B : World) : Prop where
  size : A.heap.size ≤ B.heap.size
  keep : ∀ b o, ¬ own b → A.heap[b]? = some o → o.isCells = true → B.heap[b]? = some o
theorem Kc.refl (own : Nat → Prop) (A : World) : Kc own A A := ⟨Nat.le_refl _, fun _ _ _ h _ => h⟩
theorem Kc.trans {own : Nat → Prop} {A B C : World} (h : Kc own A B) (k : Kc own B C) : Kc own A C :=
  ⟨Nat.le_trans h.size k.size, fun b o hb ho hc => k.keep b o hb (h.keep b o hb ho hc) hc⟩
theorem Kc.mono {own own' : Nat → Prop} {A B : World} (h : Kc own A B) (hs : ∀ b, own b → own' b) : Kc own' A B :=
  ⟨h.size, fun b o hb => h.keep b o fun q => hb (hs b q)⟩
theorem Kc.put {own : Nat → Prop} (W : World) (l : Nat) (o o' : Obj) (hl : W.heap[l]? = some o) (ho : o.isCells = false) : Kc own W (W.putObj l o') :=
  ⟨by simp, fun b p _ hp hc => by
    by_cases e : b = l
    · subst e; rw [hl] at hp; cases hp; rw [ho] at hc; cases hc
    · exact (World.putObj_heap_other e).trans hp⟩
/-- what the laws for loops ask -/
theorem Kc.book {own : Nat → Prop} {w : World} (W : World) (l : Nat) (o o' : Obj) (_ : w.heap.size ≤ l) (h : W.heap[l]? = some o) (hc : o.isCells = false) (_ : o.isWalk = false) : Kc own W (W.putObj l o') := Kc.put W l o o' h hc
theorem Kc.of_below {own : Nat → Prop} {W W' : World} (h : Below W.heap.size W W') : Kc own W W' :=
  ⟨h.size, fun b _ _ ho _ => (h.block b (Array.getElem?_eq_some_iff.1 ho).1).trans ho⟩
theorem Kc.alloc {own : Nat → Prop} {A B : World} (h : Kc own A B) (o : Obj) : Kc own A (B.alloc o) := h.trans (Kc.of_below ((Below.refl _ _).alloc (Nat.le_refl _) _))
theorem Kc.setCell {own : Nat → Prop} {A B : World} (h : Kc own A B) (b : Nat) (v : Value) (hb : own b) : Kc own A (B.setCell ⟨b, 0, none⟩ v) :=
  h.trans ⟨(grownBy_setCell' B b v).size, fun k o hk ho _ => (Below.heap_setCell _ _ _ k (fun e => hk (by rw [e]; exact hb))).trans ho⟩
theorem Kc.box {own : Nat → Prop} {A B : World} (h : Kc own A B) {b : Nat} {t : TypeId} {v : Value} (hb : ¬ own b) (k : Boxed A b t v) : Boxed B b t v := h.keep b _ hb k rfl
theorem Kc.cell {own : Nat → Prop} {A B : World} (h : Kc own A B) {p : Addr} {v : Value} (hb : ¬ own p.block) (k : A.cell? p = some v) : B.cell? p = some v := by
  cases ho : A.heap[p.block]? with
  | none => unfold World.cell? at k; rw [ho] at k; cases k
  | some o =>
    have hc : o.isCells = true := by
      unfold World.cell? at k
      rw [ho] at k
      cases o <;> first | rfl | (cases k)
    have := h.keep p.block o hb ho hc
    rw [World.cell?_of_block (w := A) (w' := B) (this.trans ho.symm)]
    exact k
theorem Kc.own {own : Nat → Prop} {β : Type} {w0 : World} : Own (fun (_ : β) W => Kc own w0 W) := fun _ A B row h hg hr =>
  h.trans ⟨hg.size, fun b o _ ho hc => (hg.block b (Array.getElem?_eq_some_iff.1 ho).1 fun e => by
    obtain ⟨p, hp, q⟩ := hr b e.symm
    rw [ho] at hp; cases hp; rw [q] at hc; cases hc).trans ho⟩
theorem Kc.lay {own : Nat → Prop} {A B : World} (h : Kc own A B) (hb : ¬ own 1) (L : Lay A) : Lay B :=
  ⟨fun j hj => h.cell (p := ⟨1, j, none⟩) hb (L.c j hj), Nat.lt_of_lt_of_le L.lt h.size⟩
theorem Kc.row {own : Nat → Prop} {A B : World} (h : Kc own A B) {b : Nat} {t : TypeId} {cs : List Value} (hb : ¬ own b) (k : Row A b t cs) : Row B b t cs := h.keep b _ hb k rfl
end Go.Proofs.YtbehendogcghjaaDoor
