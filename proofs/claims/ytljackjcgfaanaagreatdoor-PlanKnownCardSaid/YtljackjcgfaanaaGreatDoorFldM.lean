/- Contract of Parse of package field. -/
import Derived.Test.YtljackjcgfaanaaGreatDoorGFldA
import Derived.Deep.RegionHeld3
import Derived.Lib.Atoi
import Derived.Lib.AtoiErrMem
import Derived.Lib.SmallJoins
import Derived.Lib.Fold
import Derived.Laws.EntriesVeiled
import Derived.StillTailTactics
import Derived.RangeFuncNested
import Derived.RangeFuncBox
import Derived.OwnWalkIn
import Derived.TacticsInMore
import Derived.LoopNIn
import Derived.LoopIn
import Derived.RangeFuncLeaves
import Derived.Shelf.Abstract
import Derived.Maps.AppendAt
import Derived.Shelf.RegionOpen
namespace Go.Proofs.YtljackjcgfaanaaGreatDoor
open Go.ChangeShapes Go.WideShapes Go.RowKit Go.Shelf
/-- a kind in memory is this one -/
structure KdIs (lo hi : Int) (xs : List ByteArray) (wk : Bool) (K : Fld.Kd) : Prop where
  lo : lo = K.lo
  hi : hi = K.hi
  nm : K.names = bytesL xs
  wk : wk = K.week
  ok : K.Ok
theorem KdIs.valid {lo hi : Int} {xs : List ByteArray} {wk : Bool} {K : Fld.Kd} (h : KdIs lo hi xs wk K) : Valid lo hi xs wk := by
  obtain ⟨rfl, rfl, nm, rfl, ok⟩ := h
  refine ⟨by omega, by have := ok.le; omega, by have := ok.hi; omega, fun e => by have := ok.week e; omega, ?_⟩
  rcases ok.count with c | c
  · left
    rw [nm] at c
    exact List.map_eq_nil_iff.1 c
  · rw [nm, bytesL_len] at c
    refine .inr ⟨by have := ok.le; omega, fun i hi' _ => ⟨(nameB_list _).2 (ok.ups _ (by rw [nm]; exact List.mem_map_of_mem (List.getElem_mem hi'))), fun hm => ?_⟩⟩
    obtain ⟨j, hj, e⟩ := List.mem_take_iff_getElem.1 hm
    have := List.pairwise_iff_getElem.1 ok.diff j i (by rw [nm, bytesL_len]; omega) (by rw [nm, bytesL_len]; exact hi') (by omega)
    apply this
    simp only [nm, bytesL, List.getElem_map, e]

theorem putObj_grown (W : World) (l : Nat) (o : Obj) : W.grownBy (W.putObj l o) (some l) := grownBy_putObj' W l o
theorem below_drewN (B : Nat) (w : World) (n : Nat) : Below B w (w.drewN n) := by
  induction n with
  | zero => exact Below.refl _ _
  | succ n ih => exact ih.drew
theorem below_put {w W : World} (h : Below w.heap.size w W) {D : Nat} (hD : w.heap.size ≤ D) (o : Obj) : Below w.heap.size w (W.putObj D o) :=
  h.grown (putObj_grown W D o) h.size (fun k e => by cases e; exact hD)
section
attribute [local go_sem] Oper.semAt_some
end
end Go.Proofs.YtljackjcgfaanaaGreatDoor
