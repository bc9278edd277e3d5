/- The document's program of blackout: borders, wanted, result. -/
import Derived.Test.YtljackjcgfaanaaGreatDoorBlkF
import Derived.Deep.RegionLaw
import Derived.WalkSmall
namespace Go.Proofs.YtljackjcgfaanaaGreatDoor.Bo
open Go.ChangeShapes Go.RowKit
theorem OwnS.alloc {w wr : World} {v : Value} {l : List (Int × Int)} (h : OwnS w v l wr) (o : Obj) : OwnS w v l (wr.alloc o) := ⟨h.row.alloc o, h.below.alloc h.below.size o⟩
theorem OwnS.drewN {w wr : World} {v : Value} {l : List (Int × Int)} (h : OwnS w v l wr) (m : Nat) : OwnS w v l (wr.drewN m) := ⟨h.row, below_drewN h.below m⟩
theorem OwnS.drew {w wr : World} {v : Value} {l : List (Int × Int)} (h : OwnS w v l wr) : OwnS w v l wr.drew := ⟨h.row, h.below.drew⟩
theorem OwnS.grow {w wr w1 : World} {v v' : Value} {l m : List (Int × Int)} (h : OwnS w v l wr)
    (hown : w1.ownsRow w.heap.size 48 2 v' (l.length + m.length) (l.flatMap encS ++ m.flatMap encS)) (hg : wr.grownBy w1 v.ownBlock) : OwnS w v' (l ++ m) w1 := by
  refine ⟨by rw [List.flatMap_append, List.length_append]; exact hown, h.below.grown hg h.below.size (fun k hk => (h.row.lt k hk).1)⟩
/-- the last span's end, stored anew -/
theorem OwnS.last {w wr : World} {g cap : Nat} {l : List (Int × Int)} {y : Int × Int} (h : OwnS w (.slice (some ⟨g, 0, none⟩) (l.length + 1) cap) (l ++ [y]) wr) (b : Int) :
    OwnS w (.slice (some ⟨g, 0, none⟩) (l.length + 1) cap) (l ++ [(y.1, b)]) (wr.setCell ⟨g, l.length * 2 + 1, none⟩ (.int .i64 b)) := by
  have hr := h.row
  have e : (l ++ [y]).length = l.length + 1 := by simp
  rw [e] at hr
  have q := hr.stored (l.length * 2 + 1) (.int .i64 b)
  refine ⟨?_, h.below.grown q.2 h.below.size (fun k hk => by cases hk; exact (hr.lt g rfl).1)⟩
  have e2 : (l ++ [(y.1, b)]).length = l.length + 1 := by simp
  rw [e2]
  have e3 : ((l ++ [y]).flatMap encS).set (l.length * 2 + 1) (.int .i64 b) = (l ++ [(y.1, b)]).flatMap encS := by
    rw [List.flatMap_append, List.flatMap_append, List.set_append_right _ _ (by rw [flatS_len]; omega), flatS_len, show l.length * 2 + 1 - l.length * 2 = 1 by omega]
    rfl
  rw [← e3]
  exact q.1
end Go.Proofs.YtljackjcgfaanaaGreatDoor.Bo
