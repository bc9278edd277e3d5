/- The examples of the chapter hold: the statements' works returns true; nothing in memory that was there changes. -/
import Derived.Test.YtihbpbdcpnpiaaaGapH
import Derived.Test.YtihbpbdcpnpiaaaGapK
namespace Go.Proofs.Ytihbpbdcpnpiaaa
open Go.ChangeShapes Go.RowKit

/-- a slice written out -/
theorem RowT.lit (w : World) (l : List Int) (n : Nat) (hn : n = l.length) (cs : Array Value) (hc : cs.toList = l.map (.int .i64 ·)) (hl : l.length ≤ 1000000) : RowT (w.alloc (.cells cs 2)) (.slice (some ⟨w.heap.size, 0, none⟩) n n) l := by
  subst hn
  refine ⟨hl, _, _, rfl, fun j hj => ⟨w.heap.size, 0, rfl, ?_⟩⟩
  have e : cs[j]? = some (.int .i64 (l.getD j 0)) := by rw [← Array.getElem?_toList, hc]; simp [hj]
  have hw := World.alloc_heap_new w (.cells cs 2)
  simp only [World.cell?, hw, Nat.zero_add]
  exact e
theorem below_next {w V W : World} (h : Below w.heap.size w V) (k : Below V.heap.size V W) : Below w.heap.size w W := h.trans (k.mono h.size)
theorem below_new {w V : World} (h : Below w.heap.size w V) (o : Obj) : Below w.heap.size w (V.alloc o) := h.alloc h.size o

theorem tl_of (l : List Int) (h1 : l.length ≤ 100000) (h2 : l.all (fun z => decide (0 ≤ z ∧ z ≤ 253402300799)) = true) (h3 : Gp.Inc l) : Gp.Tl l :=
  ⟨h1, fun z hz => by have := List.all_eq_true.1 h2 z hz; simpa [Gp.okT] using this, h3⟩
theorem tlA : Gp.Tl [10, 12, 15, 30] := tl_of _ (by decide) (by decide) (by unfold Gp.Inc; decide)
theorem tlB : Gp.Tl [12, 13] := tl_of _ (by decide) (by decide) (by unfold Gp.Inc; decide)
theorem errA : Gp.errL [[10, 12, 15, 30]] = 0 := Gp.errL_ok (by intro l h; simp at h; subst h; exact tlA)
theorem errAB : Gp.errL [[10, 12, 15, 30], [12, 13]] = 0 := Gp.errL_ok (by intro l h; simp at h; rcases h with rfl | rfl; exact tlA; exact tlB)
theorem gapsA : gapsO [10, 12, 15, 30] = [2, 3, 15] := by unfold gapsO; rw [if_pos errA]; decide
theorem leastA : leastO [10, 12, 15, 30] = (2, true) := by unfold leastO; rw [gapsA, if_neg (by simp)]; rfl
theorem errWA : errW [10, 12, 15, 30] 5 = 0 := by unfold errW; rw [if_pos errA, if_pos (by omega)]
theorem mostA : mostO [10, 12, 15, 30] 5 = (2, 10) := by unfold mostO; rw [if_pos errWA]; decide
theorem coverA : coverO [10, 12, 15, 30] 5 = 3 := by unfold coverO; rw [if_pos errWA]; decide
theorem mergeA : mergeO [10, 12, 15, 30] [12, 13] = [10, 12, 13, 15, 30] := by
  unfold mergeO
  rw [if_pos errAB]
  refine (Gp.inc_ms tlA.inc tlB.inc).uniq (by unfold Gp.Inc; decide) fun t => ?_
  rw [Gp.mem_ms tlA.inc tlB.inc]
  simp
  omega
theorem nearA : IsNear [10, 12, 15, 30] 13 1 0 := by
  refine .inr (.inr ⟨Gp.errL_ok (by intro l h; simp at h; rcases h with rfl | rfl; exact tlA; exact tl_of _ (by decide) (by decide) (Gp.inc_one _)), ⟨by decide, ?_, ?_⟩, rfl⟩)
  · intro j hj
    have : j = 0 ∨ j = 1 ∨ j = 2 ∨ j = 3 := by simp at hj; omega
    rcases this with rfl | rfl | rfl | rfl <;> decide
  · intro j hj
    obtain rfl : j = 0 := by omega
    decide
theorem errC33 : Gp.errL [[3, 3]] = 8 := Gp.errL_order (by simp) (by simp [Gp.okT]) ⟨[3, 3], by simp, by unfold Gp.Inc; decide⟩

set_option maxRecDepth 100000 in
set_option maxHeartbeats 4000000 in
theorem works_any (w : World) : Calls Try.prog 15 #[] w fun e w' => e = .returned (.bool true) ∧ Below w.heap.size w w' := by
  have R0 := Lib.hid (RowT.lit w [10, 12, 15, 30] 4 rfl #[.int .i64 10, .int .i64 12, .int .i64 15, .int .i64 30] rfl (by decide))
  have B0 : Hid (Below w.heap.size w (w.alloc (.cells #[.int .i64 10, .int .i64 12, .int .i64 15, .int .i64 30] 2))) := Lib.hid (below_new (Below.refl _ w) _)
  have GA := Lib.hid (fun v W h => gaps_any v [10, 12, 15, 30] W h)
  have LE := Lib.hid (fun v W h => least_any v [10, 12, 15, 30] 2 true leastA W h)
  have MO := Lib.hid (fun v W h => most_any v [10, 12, 15, 30] 5 2 10 mostA W h)
  have CO := Lib.hid (fun v W h => cover_any v [10, 12, 15, 30] 5 3 coverA W h)
  have ME := Lib.hid (fun v u W h h' => merge_any v u [10, 12, 15, 30] [12, 13] W h h')
  have NE := Lib.hid (fun v W h => near_any v [10, 12, 15, 30] 13 1 0 nearA W h)
  have GC := Lib.hid (fun v W h => gaps_any v [3, 3] W h)
  rw [errA, gapsA] at GA
  rw [errA] at LE
  rw [errWA] at MO CO
  rw [errAB, mergeA] at ME
  rw [errC33] at GC
  go_enter Try.func15, Try.ntmps15
  go_wp2_with fail
  refine (GA.out _ _ R0.out).mono ?_
  rintro e V1 ⟨u1, rfl, o1⟩
  have B1 := Lib.hid (below_next B0.out o1.below)
  have R1 := Lib.hid (R0.out.below o1.below)
  have G1 := Lib.hid (o1.rowT (by decide))
  obtain ⟨a1, c1, rfl⟩ := o1.len
  clear o1 R0 B0
  go_wp2_with fail
  refine (LE.out _ _ R1.out).mono ?_
  rintro e V2 ⟨rfl, b⟩
  have B2 := Lib.hid (below_next B1.out b)
  have R2 := Lib.hid (R1.out.below b)
  have G2 := Lib.hid (G1.out.below b)
  clear b R1 B1 G1
  go_wp2_with fail
  refine (MO.out _ _ R2.out).mono ?_
  rintro e V3 ⟨rfl, b⟩
  have B3 := Lib.hid (below_next B2.out b)
  have R3 := Lib.hid (R2.out.below b)
  have G3 := Lib.hid (G2.out.below b)
  clear b R2 B2 G2
  go_wp2_with fail
  refine (CO.out _ _ R3.out).mono ?_
  rintro e V4 ⟨rfl, b⟩
  have B4 := Lib.hid (below_next B3.out b)
  have R4 := Lib.hid (R3.out.below b)
  have G4 := Lib.hid (G3.out.below b)
  clear b R3 B3 G3
  go_wp2_with fail
  refine (ME.out _ _ _ (R4.out.alloc _) (RowT.lit V4 [12, 13] 2 rfl #[.int .i64 12, .int .i64 13] rfl (by decide))).mono ?_
  rintro e V5 ⟨u5, rfl, o5⟩
  have B5 := Lib.hid (below_next (below_new B4.out _) o5.below)
  have R5 := Lib.hid ((R4.out.alloc _).below o5.below)
  have G5 := Lib.hid ((G4.out.alloc _).below o5.below)
  have M5 := Lib.hid (o5.rowT (by decide))
  obtain ⟨a5, c5, rfl⟩ := o5.len
  clear o5 R4 B4 G4
  go_wp2_with fail
  refine (NE.out _ _ R5.out).mono ?_
  rintro e V6 ⟨rfl, b⟩
  have B6 := Lib.hid (below_next B5.out b)
  have G6 := Lib.hid (G5.out.below b)
  have M6 := Lib.hid (M5.out.below b)
  clear b R5 B5 G5 M5
  go_wp2_with fail
  refine (GC.out _ _ (RowT.lit V6 [3, 3] 2 rfl #[.int .i64 3, .int .i64 3] rfl (by decide))).mono ?_
  rintro e V7 ⟨u7, rfl, o7⟩
  have B7 := Lib.hid (below_next (below_new B6.out _) o7.below)
  have G7 := Lib.hid ((G6.out.alloc _).below o7.below)
  have M7 := Lib.hid ((M6.out.alloc _).below o7.below)
  obtain ⟨a7, c7, rfl⟩ := o7.len
  clear o7 B6 G6 M6
  go_wp2_with fail
  refine (equal_same _ _ _ _ (G7.out.alloc _) (RowT.lit V7 [2, 3, 15] 3 rfl #[.int .i64 2, .int .i64 3, .int .i64 15] rfl (by decide))).mono ?_
  rintro e V8 ⟨rfl, b⟩
  have B8 := Lib.hid (below_next (below_new B7.out _) b)
  have M8 := Lib.hid ((M7.out.alloc _).below b)
  clear b B7 G7 M7
  go_wp2_with fail
  refine (equal_same _ _ _ _ (M8.out.alloc _) (RowT.lit V8 [10, 12, 13, 15, 30] 5 rfl #[.int .i64 10, .int .i64 12, .int .i64 13, .int .i64 15, .int .i64 30] rfl (by decide))).mono ?_
  rintro e V9 ⟨rfl, b⟩
  have B9 := Lib.hid (below_next (below_new B8.out _) b)
  clear b B8 M8
  go_wp2_with fail
  go_ret
  exact ⟨rfl, B9.out⟩
end Go.Proofs.Ytihbpbdcpnpiaaa
