/- Where an expression matches: contract of the statements' matches. -/
import Derived.Test.YtpnfifhanmpapaaGreatDoorExpMt
import Derived.Test.YtpnfifhanmpapaaGreatDoorMExpG
namespace Go.Proofs.YtpnfifhanmpapaaGreatDoor
open Go.ChangeShapes Go.WideShapes Go.RowKit Go.Shelf

theorem has7 (S n : Nat) (b : Bool) (hS : S < 2 ^ 64) (h : S.testBit n = b) (w : World) :
    Calls Tryz.prog 65 #[.int .u64 S, .int .i64 n] w fun e w' => e = .returned (.bool b) ∧ w = w' :=
  (has_any S n w hS).mono fun _ _ ⟨h1, h2⟩ => ⟨by rw [h1, has_nat hS n, h], h2⟩
theorem has7q (S n : Nat) (b : Bool) (hS : S < 2 ^ 64) (h : S.testBit n = b) (w : World) :
    Calls Tryz.prog 65 #[.int .u64 S, .int .i64 n] w fun e w' => e = .returned (.bool b) ∧ w' = w :=
  (has7 S n b hS h w).mono fun _ _ ⟨h1, h2⟩ => ⟨h1, h2.symm⟩
/-- six numbers -/
def p6L (p : Nat → Nat) : List Value := [.int .i64 (p 0), .int .i64 (p 1), .int .i64 (p 2), .int .i64 (p 3), .int .i64 (p 4), .int .i64 (p 5)]
set_option maxRecDepth 100000 in
set_option maxHeartbeats 8000000 in
theorem matches_any (x : Exp.Ex) (hx : x.Bd) (p : Nat → Nat) (m : Bool) (hm : x.mat p = m) (w : World) :
    Calls Tryz.prog 33 #[.agg #[.int .u64 x.a0, .int .u64 x.a1, .int .u64 x.a2, .int .u64 x.a3, .int .u64 x.a4, .int .u64 x.a5, .bool x.b3, .bool x.b5], .agg #[.int .i64 (p 0), .int .i64 (p 1), .int .i64 (p 2), .int .i64 (p 3), .int .i64 (p 4), .int .i64 (p 5)]] w fun e w' => e = .returned (.bool m) ∧ Below w.heap.size w w' := by
  have RX := (Row.new w (exL x) 25).alloc (.cells (p6L p).toArray 65)
  have RP := Row.new (w.alloc (.cells (exL x).toArray 25)) (p6L p) 65
  rw [World.size_alloc] at RP
  have B0 := ((Below.refl _ w).alloc (Nat.le_refl _) (.cells (exL x).toArray 25)).alloc (by simp) (.cells (p6L p).toArray 65)
  obtain ⟨d0, h0⟩ : ∃ d, x.a0.testBit (p 0) = d := ⟨_, rfl⟩
  obtain ⟨d1, h1⟩ : ∃ d, x.a1.testBit (p 1) = d := ⟨_, rfl⟩
  obtain ⟨d2, h2⟩ : ∃ d, x.a2.testBit (p 2) = d := ⟨_, rfl⟩
  obtain ⟨d3, h3⟩ : ∃ d, x.a3.testBit (p 3) = d := ⟨_, rfl⟩
  obtain ⟨d4, h4⟩ : ∃ d, x.a4.testBit (p 4) = d := ⟨_, rfl⟩
  obtain ⟨d5, h5⟩ : ∃ d, x.a5.testBit (p 5) = d := ⟨_, rfl⟩
  have l0 := hx 0 (by decide); have l1 := hx 1 (by decide); have l2 := hx 2 (by decide); have l3 := hx 3 (by decide); have l4 := hx 4 (by decide); have l5 := hx 5 (by decide)
  simp only [Exp.Ex.at] at l0 l1 l2 l3 l4 l5
  obtain ⟨b3, g3⟩ : ∃ b, x.b3 = b := ⟨_, rfl⟩
  obtain ⟨b5, g5⟩ : ∃ b, x.b5 = b := ⟨_, rfl⟩
  have hm' := hm
  unfold Exp.Ex.mat Exp.Ex.dm at hm'
  rw [h0, h1, h2, h3, h4, h5, g3, g5] at hm'
  have HM := Lib.hid hm'
  rw [g3, g5]
  obtain ⟨W0, hW⟩ : ∃ W0, (w.alloc (.cells #[.int .u64 x.a0, .int .u64 x.a1, .int .u64 x.a2, .int .u64 x.a3, .int .u64 x.a4, .int .u64 x.a5, .bool b3, .bool b5] 25)).alloc (.cells #[.int .i64 (p 0), .int .i64 (p 1), .int .i64 (p 2), .int .i64 (p 3), .int .i64 (p 4), .int .i64 (p 5)] 65) = W0 := ⟨_, rfl⟩
  have hW' : (w.alloc (.cells (exL x).toArray 25)).alloc (.cells (p6L p).toArray 65) = W0 := by rw [← hW, ← g3, ← g5]; rfl
  rw [hW'] at RX RP B0
  have HB := Lib.hid B0
  have c0 := RX.cell 0; have c1 := RX.cell 1; have c2 := RX.cell 2; have c3 := RX.cell 3; have c4 := RX.cell 4; have c5 := RX.cell 5; have c6 := RX.cell 6; have c7 := RX.cell 7
  have e0 := RP.cell 0; have e1 := RP.cell 1; have e2 := RP.cell 2; have e3 := RP.cell 3; have e4 := RP.cell 4; have e5 := RP.cell 5
  simp only [exL, p6L, List.getElem?_cons_zero, List.getElem?_cons_succ] at c0 c1 c2 c3 c4 c5 c6 c7 e0 e1 e2 e3 e4 e5
  rw [g3] at c6
  rw [g5] at c7
  clear RX RP B0 hx hm hm' g3 g5 hW'
  go_enter Tryz.func33, Tryz.ntmps33
  go_wp2_with fail
  try rw [hW]
  clear hW
  go_quiet (first | (go_at_call 65; exact Calls.quiet_of_same (has7q _ _ _ (by assumption) (by assumption) _)))
  cases b3 with
  | false =>
    cases b5 with
    | false =>
      cases d3 with
      | false =>
        cases d5 with
        | false =>
          go_wp2_with fail
          go_ret
          exact ⟨by rw [← HM.out]; rfl, HB.out.trans (below_drewN _ _ _)⟩
        | true =>
          go_wp2_with fail
          refine (has7 _ _ d0 l0 h0 _).mono ?_
          rintro e' w1 ⟨rfl, rfl⟩
          cases d0 with
          | false =>
            go_wp2_with fail
            go_ret
            exact ⟨by rw [← HM.out]; rfl, HB.out.trans (below_drewN _ _ _)⟩
          | true =>
            go_wp2_with fail
            refine (has7 _ _ d1 l1 h1 _).mono ?_
            rintro e' w1 ⟨rfl, rfl⟩
            cases d1 with
            | false =>
              go_wp2_with fail
              go_ret
              exact ⟨by rw [← HM.out]; rfl, HB.out.trans (below_drewN _ _ _)⟩
            | true =>
              go_wp2_with fail
              refine (has7 _ _ d2 l2 h2 _).mono ?_
              rintro e' w1 ⟨rfl, rfl⟩
              cases d2 with
              | false =>
                go_wp2_with fail
                go_ret
                exact ⟨by rw [← HM.out]; rfl, HB.out.trans (below_drewN _ _ _)⟩
              | true =>
                go_wp2_with fail
                refine (has7 _ _ d4 l4 h4 _).mono ?_
                rintro e' w1 ⟨rfl, rfl⟩
                cases d4 with
                | false =>
                  go_wp2_with fail
                  go_ret
                  exact ⟨by rw [← HM.out]; rfl, HB.out.trans (below_drewN _ _ _)⟩
                | true =>
                  go_wp2_with fail
                  go_ret
                  exact ⟨by rw [← HM.out]; rfl, HB.out.trans (below_drewN _ _ _)⟩
      | true =>
        go_wp2_with fail
        refine (has7 _ _ d0 l0 h0 _).mono ?_
        rintro e' w1 ⟨rfl, rfl⟩
        cases d0 with
        | false =>
          go_wp2_with fail
          go_ret
          exact ⟨by rw [← HM.out]; rfl, HB.out.trans (below_drewN _ _ _)⟩
        | true =>
          go_wp2_with fail
          refine (has7 _ _ d1 l1 h1 _).mono ?_
          rintro e' w1 ⟨rfl, rfl⟩
          cases d1 with
          | false =>
            go_wp2_with fail
            go_ret
            exact ⟨by rw [← HM.out]; rfl, HB.out.trans (below_drewN _ _ _)⟩
          | true =>
            go_wp2_with fail
            refine (has7 _ _ d2 l2 h2 _).mono ?_
            rintro e' w1 ⟨rfl, rfl⟩
            cases d2 with
            | false =>
              go_wp2_with fail
              go_ret
              exact ⟨by rw [← HM.out]; rfl, HB.out.trans (below_drewN _ _ _)⟩
            | true =>
              go_wp2_with fail
              refine (has7 _ _ d4 l4 h4 _).mono ?_
              rintro e' w1 ⟨rfl, rfl⟩
              cases d4 with
              | false =>
                go_wp2_with fail
                go_ret
                exact ⟨by rw [← HM.out]; rfl, HB.out.trans (below_drewN _ _ _)⟩
              | true =>
                go_wp2_with fail
                go_ret
                exact ⟨by rw [← HM.out]; rfl, HB.out.trans (below_drewN _ _ _)⟩
    | true =>
      cases d3 with
      | false =>
        go_wp2_with fail
        go_ret
        exact ⟨by rw [← HM.out]; rfl, HB.out.trans (below_drewN _ _ _)⟩
      | true =>
        go_wp2_with fail
        refine (has7 _ _ d0 l0 h0 _).mono ?_
        rintro e' w1 ⟨rfl, rfl⟩
        cases d0 with
        | false =>
          go_wp2_with fail
          go_ret
          exact ⟨by rw [← HM.out]; rfl, HB.out.trans (below_drewN _ _ _)⟩
        | true =>
          go_wp2_with fail
          refine (has7 _ _ d1 l1 h1 _).mono ?_
          rintro e' w1 ⟨rfl, rfl⟩
          cases d1 with
          | false =>
            go_wp2_with fail
            go_ret
            exact ⟨by rw [← HM.out]; rfl, HB.out.trans (below_drewN _ _ _)⟩
          | true =>
            go_wp2_with fail
            refine (has7 _ _ d2 l2 h2 _).mono ?_
            rintro e' w1 ⟨rfl, rfl⟩
            cases d2 with
            | false =>
              go_wp2_with fail
              go_ret
              exact ⟨by rw [← HM.out]; rfl, HB.out.trans (below_drewN _ _ _)⟩
            | true =>
              go_wp2_with fail
              refine (has7 _ _ d4 l4 h4 _).mono ?_
              rintro e' w1 ⟨rfl, rfl⟩
              cases d4 with
              | false =>
                go_wp2_with fail
                go_ret
                exact ⟨by rw [← HM.out]; rfl, HB.out.trans (below_drewN _ _ _)⟩
              | true =>
                go_wp2_with fail
                go_ret
                exact ⟨by rw [← HM.out]; rfl, HB.out.trans (below_drewN _ _ _)⟩
  | true =>
    cases b5 with
    | false =>
      cases d5 with
      | false =>
        go_wp2_with fail
        go_ret
        exact ⟨by rw [← HM.out]; rfl, HB.out.trans (below_drewN _ _ _)⟩
      | true =>
        go_wp2_with fail
        refine (has7 _ _ d0 l0 h0 _).mono ?_
        rintro e' w1 ⟨rfl, rfl⟩
        cases d0 with
        | false =>
          go_wp2_with fail
          go_ret
          exact ⟨by rw [← HM.out]; rfl, HB.out.trans (below_drewN _ _ _)⟩
        | true =>
          go_wp2_with fail
          refine (has7 _ _ d1 l1 h1 _).mono ?_
          rintro e' w1 ⟨rfl, rfl⟩
          cases d1 with
          | false =>
            go_wp2_with fail
            go_ret
            exact ⟨by rw [← HM.out]; rfl, HB.out.trans (below_drewN _ _ _)⟩
          | true =>
            go_wp2_with fail
            refine (has7 _ _ d2 l2 h2 _).mono ?_
            rintro e' w1 ⟨rfl, rfl⟩
            cases d2 with
            | false =>
              go_wp2_with fail
              go_ret
              exact ⟨by rw [← HM.out]; rfl, HB.out.trans (below_drewN _ _ _)⟩
            | true =>
              go_wp2_with fail
              refine (has7 _ _ d4 l4 h4 _).mono ?_
              rintro e' w1 ⟨rfl, rfl⟩
              cases d4 with
              | false =>
                go_wp2_with fail
                go_ret
                exact ⟨by rw [← HM.out]; rfl, HB.out.trans (below_drewN _ _ _)⟩
              | true =>
                go_wp2_with fail
                go_ret
                exact ⟨by rw [← HM.out]; rfl, HB.out.trans (below_drewN _ _ _)⟩
    | true =>
      go_wp2_with fail
      refine (has7 _ _ d0 l0 h0 _).mono ?_
      rintro e' w1 ⟨rfl, rfl⟩
      cases d0 with
      | false =>
        go_wp2_with fail
        go_ret
        exact ⟨by rw [← HM.out]; rfl, HB.out.trans (below_drewN _ _ _)⟩
      | true =>
        go_wp2_with fail
        refine (has7 _ _ d1 l1 h1 _).mono ?_
        rintro e' w1 ⟨rfl, rfl⟩
        cases d1 with
        | false =>
          go_wp2_with fail
          go_ret
          exact ⟨by rw [← HM.out]; rfl, HB.out.trans (below_drewN _ _ _)⟩
        | true =>
          go_wp2_with fail
          refine (has7 _ _ d2 l2 h2 _).mono ?_
          rintro e' w1 ⟨rfl, rfl⟩
          cases d2 with
          | false =>
            go_wp2_with fail
            go_ret
            exact ⟨by rw [← HM.out]; rfl, HB.out.trans (below_drewN _ _ _)⟩
          | true =>
            go_wp2_with fail
            refine (has7 _ _ d4 l4 h4 _).mono ?_
            rintro e' w1 ⟨rfl, rfl⟩
            cases d4 with
            | false =>
              go_wp2_with fail
              go_ret
              exact ⟨by rw [← HM.out]; rfl, HB.out.trans (below_drewN _ _ _)⟩
            | true =>
              go_wp2_with fail
              go_ret
              exact ⟨by rw [← HM.out]; rfl, HB.out.trans (below_drewN _ _ _)⟩
end Go.Proofs.YtpnfifhanmpapaaGreatDoor
