/- A row of times of the call's own that is written into; the answers on long lists and on bad ones. -/
import Derived.Test.YtihbpbdcpnpiaaaGapX
import Derived.Test.YtihbpbdcpnpiaaaGapMf
import Derived.Deep.OwnRows
namespace Go.Proofs.Ytihbpbdcpnpiaaa
open Go.ChangeShapes Go.RowKit

/-- a row of the call's own, in the block g, of n times -/
structure OwnG (w : World) (g n : Nat) (l : List Int) (W : World) : Prop where
  own : OwnT w (.slice (some ⟨g, 0, none⟩) n n) l W
  len : l.length = n
theorem OwnG.below {w W W' : World} {g n : Nat} {l : List Int} (h : OwnG w g n l W) (hb : Below W.heap.size W W') : OwnG w g n l W' := ⟨h.own.next hb, h.len⟩
theorem OwnG.alloc {w W : World} {g n : Nat} {l : List Int} (h : OwnG w g n l W) (o : Obj) : OwnG w g n l (W.alloc o) := h.below ((Below.refl _ W).alloc (Nat.le_refl _) o)
theorem OwnG.rowT {w W : World} {g n : Nat} {l : List Int} (h : OwnG w g n l W) (hn : n ≤ 1000000) : RowT W (.slice (some ⟨g, 0, none⟩) n n) l := h.own.rowT (by rw [h.len]; exact hn)
theorem OwnG.ge {w W : World} {g n : Nat} {l : List Int} (h : OwnG w g n l W) : w.heap.size ≤ g := (h.own.row.lt g rfl).1
theorem OwnG.stored {w W : World} {g n : Nat} {l : List Int} (h : OwnG w g n l W) (j : Nat) (x : Int) : OwnG w g n (l.set j x) (W.setCell ⟨g, j, none⟩ (.int .i64 x)) := by
  have e := h.len
  subst e
  have s1 := h.own.row.stored j (.int .i64 x)
  refine ⟨⟨?_, h.own.below.setCell (p := ⟨g, j, none⟩) h.ge _⟩, by simp⟩
  have e : (l.set j x).length = l.length := by simp
  rw [e, show (l.set j x).map (Value.int .i64 ·) = (l.map (Value.int .i64 ·)).set j (.int .i64 x) by simp]
  exact s1.1
theorem OwnG.frozen {w W : World} {g n : Nat} {l : List Int} (h : OwnG w g n l W) (j : Nat) : W.frozen? ⟨g, j, none⟩ = false := by
  have e := h.len
  subst e
  exact h.own.row.frozenAt j
theorem OwnG.cell {w W : World} {g n : Nat} {l : List Int} (h : OwnG w g n l W) (j : Nat) (hj : j < n) : W.cell? ⟨g, j, none⟩ = some (.int .i64 (l.getD j 0)) := by
  have e := h.len
  subst e
  rw [h.own.row.cellAt j (by omega)]
  simp [hj]
theorem OwnG.made (w : World) (n : Nat) (hn : n ≤ maxLen) : OwnG w w.heap.size n (Gp.fl n 0) (w.alloc (.cells (madeCells #[.int .i64 0] n) 2)) := by
  refine ⟨⟨⟨?_, .inr ⟨w.heap.size, n, madeCells #[.int .i64 0] n, ?_, Nat.le_refl _, World.alloc_heap_new w _, ?_, hn, ?_, ?_⟩⟩, below_new (Below.refl _ w) _⟩, Gp.fl_len n 0⟩
  · simp
  · rw [Gp.fl_len]
  · rw [Gp.fl_len]; exact Nat.le_refl _
  · rw [← Array.length_toList, toList_madeCells_one]; simp
  · rw [toList_madeCells_one, Gp.fl_len, Gp.fl_zero]; simp
theorem mk_any (n : Nat) (hn : n ≤ 1000000) (W : World) : (Instr.makeSlice 22 (.int .i64 (n : Int)) (.int .i64 (n : Int))).run Try.prog W = .ok (.slice (some ⟨W.heap.size, 0, none⟩) n n) (W.alloc (.cells (madeCells #[.int .i64 0] n) 2)) :=
  run_make_row' (P := Try.prog) 22 2 (.int .i64 0) 8 Try.underlying22 infoT rfl _ _ n (by omega) (by omega) W

theorem errW_not {l : List Int} {wd : Int} (h : Gp.errL [l] ≠ 0) : errW l wd = Gp.errL [l] := by unfold errW; rw [if_neg h]
theorem errW_wide {l : List Int} {wd : Int} (h : Gp.errL [l] = 0) (q : ¬ (1 ≤ wd ∧ wd ≤ 68719476736)) : errW l wd = 2 := by unfold errW; rw [if_pos h, if_neg q]
theorem errW_yes {l : List Int} {wd : Int} (h : Gp.errL [l] = 0) (q : 1 ≤ wd ∧ wd ≤ 68719476736) : errW l wd = 0 := by unfold errW; rw [if_pos h, if_pos q]
theorem mostO_not {l : List Int} {wd : Int} (h : errW l wd ≠ 0) : mostO l wd = (0, 0) := by unfold mostO; rw [if_neg h]
theorem coverO_not {l : List Int} {wd : Int} (h : errW l wd ≠ 0) : coverO l wd = 0 := by unfold coverO; rw [if_neg h]
theorem err_long1 {l : List Int} (h : 100000 < l.length) : Gp.errL [l] = 12 := Gp.errL_many ⟨l, by simp, h⟩
theorem err_long2 {l : List Int} (h : 100000 < l.length) (a : List Int) : Gp.errL [a, l] = 12 := Gp.errL_many ⟨l, by simp, h⟩
theorem err_long3 {l : List Int} (h : 100000 < l.length) (a : List Int) : Gp.errL [l, a] = 12 := Gp.errL_many ⟨l, by simp, h⟩
theorem near_long {l : List Int} (h : 100000 < l.length) (t : Int) : IsNear l t 0 12 := .inl ⟨(err_long3 h [t]).symm, by decide, rfl⟩
theorem err55 : Gp.errL [[5, 5]] = 8 := Gp.errL_order (by simp) (by simp [Gp.okT]) ⟨[5, 5], by simp, by unfold Gp.Inc; decide⟩
theorem err555 : Gp.errL [[5, 5, 253402300800]] = 14 := Gp.errL_time (by simp) ⟨[5, 5, 253402300800], by simp, 253402300800, by simp, by simp [Gp.okT]⟩
theorem err56 : Gp.errL [[5, 6]] = 0 := Gp.errL_ok (by intro l h; simp at h; subst h; exact tl_of _ (by decide) (by decide) (by unfold Gp.Inc; decide))
theorem err0m : Gp.errL [[0, 253402300799]] = 0 := Gp.errL_ok (by intro l h; simp at h; subst h; exact tl_of _ (by decide) (by decide) (by unfold Gp.Inc; decide))
theorem err65 : Gp.errL [[6, 5], [-1]] = 14 := Gp.errL_time (by simp) ⟨[-1], by simp, -1, by simp, by simp [Gp.okT]⟩
theorem err551 : Gp.errL [[5, 5], [-1]] = 14 := Gp.errL_time (by simp) ⟨[-1], by simp, -1, by simp, by simp [Gp.okT]⟩
theorem near551 : IsNear [5, 5] (-1) 0 14 := .inl ⟨err551.symm, by decide, rfl⟩
theorem w55 : errW [5, 5] 0 = 8 := by rw [errW_not (by rw [err55]; decide), err55]
theorem w555 : errW [5, 5, 253402300800] 0 = 14 := by rw [errW_not (by rw [err555]; decide), err555]
theorem w56 : errW [5, 6] 68719476737 = 2 := errW_wide err56 (by omega)
theorem w0m : errW [0, 253402300799] 68719476736 = 0 := errW_yes err0m (by omega)
theorem c0m : coverO [0, 253402300799] 68719476736 = 2 := by unfold coverO; rw [if_pos w0m]; decide
theorem fl_err {n : Nat} (h : n ≤ 100000) (wd : Int) (q : 1 ≤ wd ∧ wd ≤ 68719476736) : errW (Gp.fl n n) wd = 0 :=
  errW_yes (Gp.errL_ok (by intro l h'; simp at h'; subst h'; exact Gp.fl_tl h)) q
theorem fl_most {n : Nat} (h : n ≤ 100000) (h3 : 3 ≤ n) : mostO (Gp.fl n n) 7 = (3, 0) := by
  unfold mostO
  rw [if_pos (fl_err h 7 (by omega)), Gp.fl_len]
  have := Gp.fl_best h3 (n - 1) (by omega)
  rwa [show n - 1 + 1 = n by omega] at this
theorem fl_cover {n : Nat} (h : n ≤ 100000) : coverO (Gp.fl n n) 3 = n := by
  unfold coverO
  rw [if_pos (fl_err h 3 (by omega)), Gp.fl_len, Gp.fl_cov n (Nat.le_refl _)]
end Go.Proofs.Ytihbpbdcpnpiaaa
