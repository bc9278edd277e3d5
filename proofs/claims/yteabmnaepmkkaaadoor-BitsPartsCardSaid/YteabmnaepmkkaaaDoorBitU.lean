/- The examples of the chapter hold: what each of the statements asks besides. -/
import Derived.Test.YteabmnaepmkkaaaDoorBitT
import Derived.DataShut
namespace Go.Proofs.YteabmnaepmkkaaaDoor
open Go.ChangeShapes Go.RowKit

theorem nat_u64 {s : Int} (h : (Lit.int .u64 s).wf = true) : ∃ S : Nat, s = S ∧ S < 2 ^ 64 := by
  rw [Lit.wf_int_iff] at h
  have h1 : 0 ≤ s ∧ s ≤ 18446744073709551615 := by simpa [IntKind.min, IntKind.max, IntKind.signed, IntKind.bits] using h
  obtain ⟨S, rfl⟩ := Int.eq_ofNat_of_zero_le h1.1
  exact ⟨S, rfl, by omega⟩
theorem nat_u8 {s : Int} (h : (Lit.int .u8 s).wf = true) : ∃ S : Nat, s = S ∧ S < 256 := by
  rw [Lit.wf_int_iff] at h
  have h1 : 0 ≤ s ∧ s ≤ 255 := by simpa [IntKind.min, IntKind.max, IntKind.signed, IntKind.bits] using h
  obtain ⟨S, rfl⟩ := Int.eq_ofNat_of_zero_le h1.1
  exact ⟨S, rfl, by omega⟩
theorem int_i64 {s : Int} (h : (Lit.int .i64 s).wf = true) : -9223372036854775808 ≤ s ∧ s ≤ 9223372036854775807 := by
  rw [Lit.wf_int_iff] at h
  simpa [IntKind.min, IntKind.max, IntKind.signed, IntKind.bits] using h
theorem ex_range : Bit.rangeS 0 59 15 = 35185445863425 := by decide +kernel
theorem ex_mem : Bit.mem 117 = [0, 2, 4, 5, 6] := by decide +kernel
theorem ex_runs : Bit.runs (Bit.mem 117) = [(0, 4, 2), (5, 6, 1)] := by
  rw [ex_mem]
  simp [Bit.runs_cons, Bit.runs_nil, Bit.take1, Bit.step1, Bit.keep]
theorem ex_count : (Bit.mem 40).length = 2 := by decide +kernel
theorem ex_next : IsNext 40 4 5 true := by
  refine .inr ⟨5, ⟨by decide, by omega, fun j hj h => ?_⟩, rfl, rfl⟩
  by_cases c : 5 ≤ j
  · exact c
  · obtain rfl : j = 4 := by omega
    exact absurd hj (by decide)
theorem works_any (w : World) (L : Lay w) :
    Calls Tryd.prog 12 #[] w fun e w' => e = .returned (.bool true) ∧ Below w.heap.size w w' := by
  have A := Lib.hid (fun w => range_any 0 59 15 35185445863425 0 w (.inr (.inr ⟨0, 59, 15, rfl, rfl, rfl, by omega, by omega, by omega, ex_range.symm, rfl⟩)))
  have B := Lib.hid (fun w L => next_any 40 4 5 true w L (by decide) (by omega) ex_next)
  have C := Lib.hid (fun w L => runs_any 117 (by decide) w L)
  have D := Lib.hid (fun w => count_any 40 (by decide) w)
  rw [ex_runs] at C
  simp only [ex_count] at D
  go_enter Tryd.func12, Tryd.ntmps12
  go_wp2_with fail
  refine (A.out _).mono ?_
  rintro e w' ⟨rfl, rfl⟩
  go_wp2_with fail
  refine (B.out _ L).mono ?_
  rintro e w' ⟨rfl, rfl⟩
  go_wp2_with fail
  refine (C.out _ L).mono ?_
  rintro e w1 ⟨v, rfl, ho⟩
  have HO := Lib.hid ho
  obtain ⟨g, cap, rfl⟩ : ∃ g cap, v = .slice (some ⟨g, 0, none⟩) 2 cap := by
    rcases ho.row.2 with ⟨_, h0⟩ | ⟨g, cap, _, rfl, _⟩
    · cases h0
    · exact ⟨g, cap, rfl⟩
  have hc := cells3_own ho.row
  have HC := Lib.hid hc
  clear ho hc
  have R := Lib.hid (fun w g' (h1 : Cells3 w g [(0, 4, 2), (5, 6, 1)]) (h2 : Cells3 w g' [(0, 4, 2), (5, 6, 1)]) => runs_row g g' 2 cap 2 [(0, 4, 2), (5, 6, 1)] w rfl (by omega) h1 h2)
  have c1 : Cells3 (w1.alloc (.cells #[.int .i64 0, .int .i64 4, .int .i64 2, .int .i64 5, .int .i64 6, .int .i64 1] 44)) g [(0, 4, 2), (5, 6, 1)] := by
    intro k hk
    obtain ⟨h1, h2, h3⟩ := HC.out k hk
    have gl := World.block_lt_of_cell? w1 _ h1
    exact ⟨((World.cell?_alloc_past _ _ _ gl).trans h1), ((World.cell?_alloc_past _ _ _ gl).trans h2), ((World.cell?_alloc_past _ _ _ gl).trans h3)⟩
  have c2 : Cells3 (w1.alloc (.cells #[.int .i64 0, .int .i64 4, .int .i64 2, .int .i64 5, .int .i64 6, .int .i64 1] 44)) w1.heap.size [(0, 4, 2), (5, 6, 1)] := by
    intro k hk
    have : k = 0 ∨ k = 1 := by simp at hk; omega
    rcases this with rfl | rfl <;> simp [go_sem]
  have C1 := Lib.hid c1
  have C2 := Lib.hid c2
  clear c1 c2
  go_wp2_with fail
  refine (R.out _ _ C1.out C2.out).mono ?_
  rintro e w2 ⟨rfl, m, rfl⟩
  go_wp2_with fail
  refine (D.out _).mono ?_
  rintro e w2 ⟨rfl, rfl⟩
  go_wp2_with fail
  go_ret
  exact ⟨rfl, below_drewN (HO.out.below.alloc HO.out.below.size _) m⟩
end Go.Proofs.YteabmnaepmkkaaaDoor
