/- How the days of an expression match: contract of daysOf of package expr. -/
import Derived.Test.YtpnfifhanmpapaaGreatDoorMExpF
import Derived.Test.YtpnfifhanmpapaaGreatDoorExpMt
namespace Go.Proofs.YtpnfifhanmpapaaGreatDoor
open Go.ChangeShapes Go.WideShapes Go.RowKit Go.Shelf

set_option maxRecDepth 100000 in
set_option maxHeartbeats 4000000 in
theorem days_any (x : Exp.Ex) (w : World) :
    Calls Tryz.prog 96 #[.agg #[.int .u64 x.a0, .int .u64 x.a1, .int .u64 x.a2, .int .u64 x.a3, .int .u64 x.a4, .int .u64 x.a5, .bool x.b3, .bool x.b5]] w fun e w' => e = .returned (.int .i64 (x.days : Nat)) ∧ Below w.heap.size w w' := by
  have E0 : ∀ w1, Below (w.alloc (.cells (exL x).toArray 25)).heap.size (w.alloc (.cells (exL x).toArray 25)) w1 → Row w1 w.heap.size 25 (exL x) ∧ Below w.heap.size w w1 := fun w1 hb =>
    ⟨(Row.new w _ _).below hb, ((Below.refl _ w).alloc (Nat.le_refl _) _).trans (hb.mono (by simp))⟩
  have HE := Lib.hid E0
  obtain ⟨F3, h3⟩ : ∃ F, Exp.fl 3 = F := ⟨_, rfl⟩
  obtain ⟨F5, h5⟩ : ∃ F, Exp.fl 5 = F := ⟨_, rfl⟩
  obtain ⟨d, hd⟩ : ∃ d, x.days = d := ⟨_, rfl⟩
  have hd' := hd
  unfold Exp.Ex.days at hd'
  rw [h3, h5] at hd'
  have HD := Lib.hid hd'
  rw [hd]
  have FF := fun w0 : World => fullFields_any w0
  rw [h3, h5] at FF
  have HF := Lib.hid FF
  clear E0 h3 h5 hd hd' FF
  go_enter Tryz.func96, Tryz.ntmps96
  go_wp2_with fail
  refine (HF.out _).mono ?_
  rintro e' w1 ⟨rfl, hb⟩
  obtain ⟨R, bw⟩ := HE.out w1 hb
  have R1 := R.alloc (.cells #[.int .u64 (Exp.fl 0 : Nat), .int .u64 (Exp.fl 1 : Nat), .int .u64 (Exp.fl 2 : Nat), .int .u64 (F3 : Nat), .int .u64 (Exp.fl 4 : Nat), .int .u64 (F5 : Nat)] 40)
  have R2 := Row.new w1 [.int .u64 (Exp.fl 0 : Nat), .int .u64 (Exp.fl 1 : Nat), .int .u64 (Exp.fl 2 : Nat), .int .u64 (F3 : Nat), .int .u64 (Exp.fl 4 : Nat), .int .u64 (F5 : Nat)] 40
  have b2 := bw.alloc bw.size (.cells #[.int .u64 (Exp.fl 0 : Nat), .int .u64 (Exp.fl 1 : Nat), .int .u64 (Exp.fl 2 : Nat), .int .u64 (F3 : Nat), .int .u64 (Exp.fl 4 : Nat), .int .u64 (F5 : Nat)] 40)
  obtain ⟨B, hB⟩ : ∃ B, w1.heap.size = B := ⟨_, rfl⟩
  rw [hB] at R2
  have c3 := R1.cell 3; have c5 := R1.cell 5; have c6 := R1.cell 6; have c7 := R1.cell 7
  have d3 := R2.cell 3; have d5 := R2.cell 5
  simp only [exL, List.getElem?_cons_zero, List.getElem?_cons_succ] at c3 c5 c6 c7 d3 d5
  obtain ⟨y3, e3⟩ : ∃ y, x.a3 = y := ⟨_, rfl⟩
  obtain ⟨y5, e5⟩ : ∃ y, x.a5 = y := ⟨_, rfl⟩
  have HD := HD.out
  rw [e3, e5] at HD
  rw [e3] at c3
  rw [e5] at c5
  have HB := Lib.hid b2
  clear hb R R1 R2 bw b2 e3 e5
  obtain ⟨p3, t3n⟩ : ∃ p, (y3 == F3) = p := ⟨_, rfl⟩
  obtain ⟨p5, t5n⟩ : ∃ p, (y5 == F5) = p := ⟨_, rfl⟩
  have t3 : ((y3 : Int) == (F3 : Int)) = p3 := by rw [← t3n, Bool.eq_iff_iff, beq_iff_eq, beq_iff_eq]; omega
  have t5 : ((y5 : Int) == (F5 : Int)) = p5 := by rw [← t5n, Bool.eq_iff_iff, beq_iff_eq, beq_iff_eq]; omega
  rw [t3n, t5n] at HD
  obtain ⟨q3, h3⟩ : ∃ q, x.b3 = q := ⟨_, rfl⟩
  obtain ⟨q5, h5⟩ : ∃ q, x.b5 = q := ⟨_, rfl⟩
  rw [h3, h5] at HD
  rw [h3] at c6
  rw [h5] at c7
  clear h3 h5
  cases q3 <;> cases q5 <;> cases p3 <;> cases p5 <;> simp only [Bool.false_eq_true, if_true, if_false] at HD <;> subst HD
  all_goals
    go_wp2_with fail
    go_ret
    exact ⟨rfl, HB.out⟩
end Go.Proofs.YtpnfifhanmpapaaGreatDoor
