/- The examples of the chapter hold: the statements' works returns true; nothing in memory that was there changes. -/
import Derived.Test.YtodjipbkeddbcaaBlkJ
namespace Go.Proofs.Ytodjipbkeddbcaa.Bk
theorem okS_of (l : List (Int × Int)) (h : l.all (fun x => decide (okT x.1 ∧ okT x.2 ∧ x.1 ≤ x.2)) = true) : OkS l := fun x hx => by
  have := List.all_eq_true.1 h x hx
  simpa using this
theorem errL_of {l : List (Int × Int)} (h1 : l.length ≤ 64) (h2 : OkS l) : errL l = 0 := errL_zero.2 ⟨h1, h2⟩
theorem okA : OkS [(10, 20), (30, 40), (15, 25), (26, 28)] := okS_of _ (by decide)
theorem errA : errL [(10, 20), (30, 40), (15, 25), (26, 28)] = 0 := errL_of (by decide) okA
theorem normalA : ResR [(10, 20), (30, 40), (15, 25), (26, 28)] [] 1 [(10, 28), (30, 40)] 0 := by
  refine ⟨by rw [err2_nil, errA], .inl ⟨rfl, ⟨⟨by simp, by simp⟩, fun t => ?_⟩⟩⟩
  rw [want_1]
  simp only [has, List.mem_cons, List.not_mem_nil, or_false, exists_eq_or_imp, exists_eq_left, false_and, exists_false]
  omega
theorem withoutA : ResR [(10, 20), (30, 40), (15, 25), (26, 28)] [(12, 12), (35, 99)] 3 [(10, 11), (13, 28), (30, 34)] 0 := by
  refine ⟨?_, .inl ⟨rfl, ⟨⟨by simp, by simp⟩, fun t => ?_⟩⟩⟩
  · unfold err2
    rw [if_pos errA]
    exact (errL_of (by decide) (okS_of _ (by decide))).symm
  · rw [want_3]
    simp only [has, List.mem_cons, List.not_mem_nil, or_false, exists_eq_or_imp, exists_eq_left]
    omega
theorem freeA : FreeR [(10, 20), (30, 40), (15, 25), (26, 28)] 12 29 true 0 := by
  refine ⟨(errI_zero.2 ⟨errA, by unfold okT; omega⟩).symm, .inl ⟨rfl, .inl ⟨rfl, by omega, by omega, ?_, fun u h1 h2 => ?_⟩⟩⟩
  · simp [has]
  · simp only [has, List.mem_cons, List.not_mem_nil, or_false, exists_eq_or_imp, exists_eq_left]
    omega
theorem lengthA : LenR [(10, 20), (30, 40), (15, 25), (26, 28)] 28 30 2 0 := by
  refine ⟨(errR_zero.2 ⟨errA, by unfold okT; omega, by unfold okT; omega, by omega⟩).symm, .inl ⟨rfl, ?_⟩⟩
  unfold len
  decide
end Go.Proofs.Ytodjipbkeddbcaa.Bk
namespace Go.Proofs.Ytodjipbkeddbcaa
open Go.ChangeShapes Go.RowKit

/-- a slice written out -/
theorem rowS_lit (w : World) (l : List (Int × Int)) (n : Nat) (hn : n = l.length) (cs : Array Value) (hc : cs.toList = l.flatMap encS) (hl : l.length ≤ 1000000) (c : Nat) : RowS (w.alloc (.cells cs 27)) (.slice (some ⟨w.heap.size, 0, none⟩) n c) l := by
  subst hn
  have e : ∀ i, cs[i]? = (l.flatMap encS)[i]? := fun i => by rw [← hc, Array.getElem?_toList]
  have hw : (w.alloc (.cells cs 27)).heap[w.heap.size]? = some (.cells cs 27) := heap_alloc_new w _
  refine ⟨hl, (fun n c h => by cases h), _, _, rfl, fun j hj => ⟨w.heap.size, 0, rfl, ?_, ?_⟩⟩
  · simp only [World.cell?, hw, Nat.zero_add]
    rw [e]
    exact (flatS_get l j hj).1
  · simp only [World.cell?, hw, Nat.zero_add]
    rw [e]
    exact (flatS_get l j hj).2
theorem example_any (w : World) : Calls Try.prog 37 #[] w fun e w' => e = .returned (.slice (some ⟨w.heap.size, 0, none⟩) 4 4) ∧ w' = w.alloc (.cells #[.int .i64 10, .int .i64 20, .int .i64 30, .int .i64 40, .int .i64 15, .int .i64 25, .int .i64 26, .int .i64 28] 27) := by
  go_enter Try.func37, Try.ntmps37
  go_wp2_with fail
  go_ret
  exact ⟨rfl, rfl⟩

set_option maxRecDepth 100000 in
set_option maxHeartbeats 4000000 in
theorem works_any (w : World) : Calls Try.prog 13 #[] w fun e w' => e = .returned (.bool true) ∧ Below w.heap.size w w' := by
  have R0 := Lib.hid (rowS_lit w [(10, 20), (30, 40), (15, 25), (26, 28)] 4 rfl #[.int .i64 10, .int .i64 20, .int .i64 30, .int .i64 40, .int .i64 15, .int .i64 25, .int .i64 26, .int .i64 28] rfl (by decide) 4)
  have B0 := Lib.hid (below_new (Below.refl _ w) (.cells #[.int .i64 10, .int .i64 20, .int .i64 30, .int .i64 40, .int .i64 15, .int .i64 25, .int .i64 26, .int .i64 28] 27) (Nat.le_refl _))
  have EX := Lib.hid (example_any w)
  have NO := Lib.hid (fun v W h => normal_any v _ _ 0 Bk.normalA W h)
  have FR := Lib.hid (fun v W h => free_any v _ 12 29 true 0 Bk.freeA W h)
  have WI := Lib.hid (fun v u W h h' => without_any v u _ _ _ 0 Bk.withoutA W h h')
  have LE := Lib.hid (fun v W h => length_any v _ 28 30 2 0 Bk.lengthA W h)
  have EQ := Lib.hid (fun v u l W h h' => equal_same v u l W h h')
  go_enter Try.func13, Try.ntmps13
  go_wp2_with fail
  refine EX.out.mono ?_
  rintro e V ⟨rfl, rfl⟩
  go_wp2_with fail
  refine (NO.out _ _ R0.out).mono ?_
  rintro e W1 ⟨n, rfl, hn⟩
  have B1 := Lib.hid (below_next B0.out hn.below)
  have R1 := Lib.hid (R0.out.below hn.below)
  have N1 := Lib.hid (hn.rowS (by simp))
  clear R0 B0 hn
  go_wp2_with fail
  refine (FR.out _ _ R1.out).mono ?_
  rintro e W2 ⟨rfl, b⟩
  have B2 := Lib.hid (below_next B1.out b)
  have R2 := Lib.hid (R1.out.below b)
  have N2 := Lib.hid (N1.out.below b)
  clear R1 N1 B1 b
  go_wp2_with fail
  refine (WI.out _ _ _ (R2.out.alloc _) (rowS_lit W2 [(12, 12), (35, 99)] 2 rfl #[.int .i64 12, .int .i64 12, .int .i64 35, .int .i64 99] rfl (by decide) 2)).mono ?_
  rintro e W3 ⟨u, rfl, hu⟩
  have b := ((Below.refl _ W2).alloc (Nat.le_refl _) (.cells #[.int .i64 12, .int .i64 12, .int .i64 35, .int .i64 99] 27)).trans (hu.below.mono (by simp))
  have B3 := Lib.hid (below_next B2.out b)
  have R3 := Lib.hid (R2.out.below b)
  have N3 := Lib.hid (N2.out.below b)
  have U3 := Lib.hid (hu.rowS (by simp))
  clear R2 N2 B2 b hu
  go_wp2_with fail
  refine (LE.out _ _ R3.out).mono ?_
  rintro e W4 ⟨rfl, b⟩
  have B4 := Lib.hid (below_next B3.out b)
  have N4 := Lib.hid (N3.out.below b)
  have U4 := Lib.hid (U3.out.below b)
  clear R3 N3 U3 B3 b
  go_wp2_with fail
  refine (EQ.out _ _ _ _ (N4.out.alloc _) (rowS_lit W4 [(10, 28), (30, 40)] 2 rfl #[.int .i64 10, .int .i64 28, .int .i64 30, .int .i64 40] rfl (by decide) 2)).mono ?_
  rintro e W5 ⟨rfl, b⟩
  have b' := ((Below.refl _ W4).alloc (Nat.le_refl _) (.cells #[.int .i64 10, .int .i64 28, .int .i64 30, .int .i64 40] 27)).trans (b.mono (by simp))
  have B5 := Lib.hid (below_next B4.out b')
  have U5 := Lib.hid (U4.out.below b')
  clear N4 U4 B4 b b'
  go_wp2_with fail
  refine (EQ.out _ _ _ _ (U5.out.alloc _) (rowS_lit W5 [(10, 11), (13, 28), (30, 34)] 3 rfl #[.int .i64 10, .int .i64 11, .int .i64 13, .int .i64 28, .int .i64 30, .int .i64 34] rfl (by decide) 3)).mono ?_
  rintro e W6 ⟨rfl, b⟩
  have b' := ((Below.refl _ W5).alloc (Nat.le_refl _) (.cells #[.int .i64 10, .int .i64 11, .int .i64 13, .int .i64 28, .int .i64 30, .int .i64 34] 27)).trans (b.mono (by simp))
  have B6 := Lib.hid (below_next B5.out b')
  clear U5 B5 b b'
  go_wp2_with fail
  go_ret
  exact ⟨rfl, B6.out⟩
end Go.Proofs.Ytodjipbkeddbcaa
