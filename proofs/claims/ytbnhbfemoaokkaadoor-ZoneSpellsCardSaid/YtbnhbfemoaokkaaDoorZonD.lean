/- Contract of read of package zone: the zone that six bytes say. -/
import Derived.Test.YtbnhbfemoaokkaaDoorZonC
import Derived.StillTailTactics
namespace Go.Proofs.YtbnhbfemoaokkaaDoor
open Go.ChangeShapes Go.RowKit

/-- six bytes in block B -/
structure Six (w W : World) (B : Nat) (x0 x1 x2 x3 x4 x5 : Int) : Prop where
  bel : Below w.heap.size w W
  hB : B < W.heap.size
  g0 : W.cell? ⟨B, 0, none⟩ = some (.int .u8 x0)
  g1 : W.cell? ⟨B, 1, none⟩ = some (.int .u8 x1)
  g2 : W.cell? ⟨B, 2, none⟩ = some (.int .u8 x2)
  g3 : W.cell? ⟨B, 3, none⟩ = some (.int .u8 x3)
  g4 : W.cell? ⟨B, 4, none⟩ = some (.int .u8 x4)
  g5 : W.cell? ⟨B, 5, none⟩ = some (.int .u8 x5)
theorem six_start (w w1 : World) (hb : Below w.heap.size w w1) (x0 x1 x2 x3 x4 x5 : Int) (t : TypeId) :
    ∃ W, W = w1.alloc (.cells #[.int .u8 x0, .int .u8 x1, .int .u8 x2, .int .u8 x3, .int .u8 x4, .int .u8 x5] t) ∧ Six w W w1.heap.size x0 x1 x2 x3 x4 x5 := by
  refine ⟨_, rfl, hb.alloc hb.size _, by simp, ?_, ?_, ?_, ?_, ?_, ?_⟩ <;> simp [go_sem]
theorem Six.drew {w W : World} {B : Nat} {y m d h i s : Int} (A : Six w W B y m d h i s) : Six w W.drew B y m d h i s :=
  ⟨A.bel.drew, A.hB, A.g0, A.g1, A.g2, A.g3, A.g4, A.g5⟩
theorem Six.below {w W W' : World} {B : Nat} {y m d h i s : Int} (A : Six w W B y m d h i s) (b : Below W.heap.size W W') : Six w W' B y m d h i s where
  bel := A.bel.trans (b.mono A.bel.size)
  hB := Nat.lt_of_lt_of_le A.hB b.size
  g0 := (b.cell (p := ⟨B, 0, none⟩) A.hB).trans A.g0
  g1 := (b.cell (p := ⟨B, 1, none⟩) A.hB).trans A.g1
  g2 := (b.cell (p := ⟨B, 2, none⟩) A.hB).trans A.g2
  g3 := (b.cell (p := ⟨B, 3, none⟩) A.hB).trans A.g3
  g4 := (b.cell (p := ⟨B, 4, none⟩) A.hB).trans A.g4
  g5 := (b.cell (p := ⟨B, 5, none⟩) A.hB).trans A.g5

theorem rd_neg {x0 x1 x2 x4 x5 : Int} (h : x0 = 45) : -(60 * (10 * (x1 - 48) + x2 - 48) + (10 * (x4 - 48) + x5 - 48)) = Zon.rd x0 x1 x2 x4 x5 := by unfold Zon.rd; rw [if_pos h]
theorem rd_pos {x0 x1 x2 x4 x5 : Int} (h : x0 ≠ 45) : 60 * (10 * (x1 - 48) + x2 - 48) + (10 * (x4 - 48) + x5 - 48) = Zon.rd x0 x1 x2 x4 x5 := by unfold Zon.rd; rw [if_neg h]
theorem wrap_small {n : Int} (a : -9223372036854775808 ≤ n) (b : n ≤ 9223372036854775807) : IntKind.i64.wrap n = n := by simp [IntKind.wrap, IntKind.signed, IntKind.bits]; omega
theorem ret_i {k : IntKind} {a b : Int} (h : a = b) : Ending.returned (.int k a) = .returned (.int k b) := by rw [h]

set_option maxRecDepth 100000 in
theorem read_any (x0 x1 x2 x3 x4 x5 : Int) (w : World) (h1 : 0 ≤ x1 ∧ x1 ≤ 255) (h2 : 0 ≤ x2 ∧ x2 ≤ 255) (h4 : 0 ≤ x4 ∧ x4 ≤ 255) (h5 : 0 ≤ x5 ∧ x5 ≤ 255) :
    Calls Tryd.prog 35 #[.agg #[.int .u8 x0, .int .u8 x1, .int .u8 x2, .int .u8 x3, .int .u8 x4, .int .u8 x5]] w fun e w' => e = .returned (.int .i64 (Zon.rd x0 x1 x2 x4 x5)) ∧ Below w.heap.size w w' := by
  have C := Lib.hid (fun w => (pair_any x1 x2 w h1.1 h1.2 h2.1 h2.2).mono fun _ _ ⟨h1, h2⟩ => (⟨h1, h2.symm⟩ : _ ∧ _))
  have D := Lib.hid (fun w => (pair_any x4 x5 w h4.1 h4.2 h5.1 h5.2).mono fun _ _ ⟨h1, h2⟩ => (⟨h1, h2.symm⟩ : _ ∧ _))
  have QN := Lib.hid (@rd_neg x0 x1 x2 x4 x5)
  have QP := Lib.hid (@rd_pos x0 x1 x2 x4 x5)
  obtain ⟨p, hp⟩ : ∃ p, 10 * (x1 - 48) + x2 - 48 = p := ⟨_, rfl⟩
  obtain ⟨q, hq⟩ : ∃ q, 10 * (x4 - 48) + x5 - 48 = q := ⟨_, rfl⟩
  have p0 : -528 ≤ p := by omega
  have p1 : p ≤ 2277 := by omega
  have q0 : -528 ≤ q := by omega
  have q1 : q ≤ 2277 := by omega
  rw [hp] at C QN QP
  rw [hq] at D QN QP
  clear hp hq h1 h2 h4 h5
  obtain ⟨W, hW, A⟩ := six_start w w (Below.refl _ _) x0 x1 x2 x3 x4 x5 54
  have H := Lib.hid hW
  have Z := Lib.hid A.bel
  have g0 := A.g0
  have g1 := A.g1
  have g2 := A.g2
  have g4 := A.g4
  have g5 := A.g5
  clear hW A
  by_cases e : x0 = 45
  · have t : (x0 == 45) = true := by simpa using e
    have QN' := Lib.hid (QN.out e)
    clear e QN QP
    go_enter Tryd.func35, Tryd.ntmps35
    go_wp2_with fail
    rw [← H.out]
    refine wp_region_still_tail 12 (by kernel_rfl) (by kernel_rfl) ?_
    simp only [List.take_succ_cons, List.take_zero, List.drop_succ_cons, List.drop_zero]
    iterate 4 still_step
    still_call (C.out _)
    iterate 5 still_step
    still_call (D.out _)
    iterate 1 still_step
    refine wpStill_nil ?_
    change wpList _ _ _ _ _ W.drew
    go_wp2_with fail
    go_ret
    exact ⟨ret_i QN'.out, Z.out.drew⟩
  · have t : (x0 == 45) = false := by rw [beq_eq_false_iff_ne]; exact e
    have QP' := Lib.hid (QP.out e)
    clear e QN QP
    go_enter Tryd.func35, Tryd.ntmps35
    go_wp2_with fail
    rw [← H.out]
    refine wp_region_still_tail 12 (by kernel_rfl) (by kernel_rfl) ?_
    simp only [List.take_succ_cons, List.take_zero, List.drop_succ_cons, List.drop_zero]
    iterate 4 still_step
    still_call (C.out _)
    iterate 5 still_step
    still_call (D.out _)
    iterate 1 still_step
    refine wpStill_nil ?_
    change wpList _ _ _ _ _ W.drew
    go_wp2_with fail
    go_ret
    exact ⟨ret_i (by rw [wrap_small (n := 60 * p) (by omega) (by omega), wrap_small (by omega) (by omega)]; exact QP'.out), Z.out.drew⟩
end Go.Proofs.YtbnhbfemoaokkaaDoor
