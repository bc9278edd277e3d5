/- plan's Check; valid and check; has. plan's has; the first time of a kind; Is. The iterator over the times of a plan. -/
import Derived.Test.YtljackjcgfaanaaGreatDoorGPlaC
import Derived.Test.YtljackjcgfaanaaGreatDoorGBlkD
/- plan's Check; valid and check; has. -/
namespace Go.Proofs.YtljackjcgfaanaaGreatDoor
open Go.ChangeShapes Go.RowKit

theorem pvalid_any (t : Int) (r : Bool) (hr : decide (Pl.vt t) = r) (w : World) :
    Calls Tryz.prog 51 #[.int .i64 t] w fun e w' => e = .returned (.bool r) ∧ w = w' := by
  by_cases a : t < 0
  · obtain rfl : false = r := by rw [← hr]; symm; rw [decide_eq_false_iff_not]; unfold Pl.vt; omega
    have a1 : decide (0 ≤ t) = false := by rw [decide_eq_false_iff_not]; omega
    clear hr
    go_enter Tryz.func51, Tryz.ntmps51
    go_wp2_with fail
    go_ret
    exact ⟨rfl, rfl⟩
  · have a1 : decide (0 ≤ t) = true := by rw [decide_eq_true_iff]; omega
    obtain rfl : decide (t ≤ 253402300799) = r := by rw [← hr, decide_eq_decide]; unfold Pl.vt; omega
    generalize hq : decide (t ≤ 253402300799) = q
    clear hr
    go_enter Tryz.func51, Tryz.ntmps51
    go_wp2_with fail
    go_ret
    exact ⟨rfl, rfl⟩
/-- is a plan of this kind valid? -/
theorem ok_0 {q : Pl.P} (k : q.k = 0) : q.Ok ↔ q = pZero := by
  rw [P_eq]
  constructor
  · intro h
    cases h <;> first | omega | (refine ⟨by assumption, by assumption, by assumption, ⟨by assumption, by assumption, by assumption⟩, by assumption⟩)
  · rintro ⟨_, x, z, ⟨s, p, c⟩, l⟩
    exact .none k x z s p c l
theorem ok_1 {q : Pl.P} (k : q.k = 1) : q.Ok ↔ q.x.okB = true ∧ errZ q.z = 0 ∧ (q.s = 0 ∧ q.p = 0 ∧ q.c = 0) ∧ Bk.errL q.l = 0 := by
  constructor
  · intro h
    cases h <;> first | omega | (refine ⟨by assumption, by assumption, ⟨by assumption, by assumption, by assumption⟩, by assumption⟩)
  · rintro ⟨x, z, ⟨s, p, c⟩, l⟩
    exact .cron k x z s p c l
theorem ok_2 {q : Pl.P} (k : q.k = 2) : q.Ok ↔ Ev.Ok q.s q.p q.c ∧ q.x = Pl.x0 ∧ q.z = 0 ∧ Bk.errL q.l = 0 := by
  constructor
  · intro h
    cases h <;> first | omega | (refine ⟨by assumption, by assumption, by assumption, by assumption⟩)
  · rintro ⟨e, x, z, l⟩
    exact .ever k e x z l
theorem vF_any (i : Nat) (hi : i < 3) (q : Pl.P) (hk : q.k = i) (hx : q.x.Bd) (v : Value) (r : Bool) (hr : r = true ↔ q.Ok) (w : World) (L : LayM w) (h : Bo.RowS w v q.l) :
    Calls Tryz.prog (vF i) #[.agg #[.int .i64 q.k, .int .u64 q.x.a0, .int .u64 q.x.a1, .int .u64 q.x.a2, .int .u64 q.x.a3, .int .u64 q.x.a4, .int .u64 q.x.a5, .bool q.x.b3, .bool q.x.b5, .int .i64 q.z, .int .i64 q.s, .int .i64 q.p, .int .i64 q.c, v]] w fun e w' => e = .returned (.bool r) ∧ Below w.heap.size w w' := by
  match i, hi with
  | 0, _ => exact valid0 q v r (hr.trans (ok_0 hk)) w h
  | 1, _ => exact valid1 q hx v r (hr.trans (ok_1 hk)) w L h
  | 2, _ => exact valid2 q v r (hr.trans (ok_2 hk)) w L h

/-- the table of the kinds in a block -/
theorem kindCells (W : World) : ∀ i, i < 3 → (W.alloc (.cells #[.func (.func 64) #[] #[], .func (.func 65) #[] #[], .func (.func 66) #[] #[], .func (.func 67) #[] #[], .func (.func 68) #[] #[], .func (.func 72) #[] #[], .func (.func 74) #[] #[], .func (.func 76) #[] #[], .func (.func 78) #[] #[], .func (.func 80) #[] #[], .func (.func 82) #[] #[], .func (.func 84) #[] #[]] 75)).cell? ⟨W.heap.size, i * 4, none⟩ = some (.func (.func (vF i)) #[] #[]) := fun i hi =>
  three (P := fun i => (W.alloc (.cells #[.func (.func 64) #[] #[], .func (.func 65) #[] #[], .func (.func 66) #[] #[], .func (.func 67) #[] #[], .func (.func 68) #[] #[], .func (.func 72) #[] #[], .func (.func 74) #[] #[], .func (.func 76) #[] #[], .func (.func 78) #[] #[], .func (.func 80) #[] #[], .func (.func 82) #[] #[], .func (.func 84) #[] #[]] 75)).cell? ⟨W.heap.size, i * 4, none⟩ = some (.func (.func (vF i)) #[] #[])) hi (by simp [go_sem, vF]) (by simp [go_sem, vF]) (by simp [go_sem, vF])
set_option maxRecDepth 100000 in
set_option maxHeartbeats 4000000 in
theorem pchk_any (q : Pl.P) (hx : q.x.Bd) (v : Value) (r : Int) (hr : q.err = r) (w : World) (L : LayM w) (h : Bo.RowS w v q.l) :
    Calls Tryz.prog 19 #[.agg #[.int .i64 q.k, .int .u64 q.x.a0, .int .u64 q.x.a1, .int .u64 q.x.a2, .int .u64 q.x.a3, .int .u64 q.x.a4, .int .u64 q.x.a5, .bool q.x.b3, .bool q.x.b5, .int .i64 q.z, .int .i64 q.s, .int .i64 q.p, .int .i64 q.c, v]] w fun e w' => e = .returned (.int .i64 r) ∧ Below w.heap.size w w' := by
  have Q := Lib.hid (PB.start L h)
  have KI := Lib.hid (fun W => kinds_any W)
  have TAB := Lib.hid (fun W i hi => kindCells W i hi)
  by_cases lo : q.k < 0 ∨ 3 ≤ q.k
  · have NO : Hid (r = 16) := Lib.hid (by rw [← hr]; exact Pl.P.err_no fun o => by rcases o.kinds with k | k | k <;> omega)
    clear hr h L
    obtain ⟨b1, b2, e1, e2, e3⟩ : ∃ b1 b2, decide (q.k < 0) = b1 ∧ decide (3 ≤ q.k) = b2 ∧ (b1 = true ∨ b2 = true) := ⟨_, _, rfl, rfl, by simpa using lo⟩
    clear lo
    cases b1 with
    | true =>
      clear e3 e2
      go_enter Tryz.func19, Tryz.ntmps19
      go_wp2_with fail
      refine (KI.out _).mono ?_
      rintro e w1 ⟨rfl, hb1⟩
      have Q1 := Lib.hid ((Q.out.next hb1).alloc (.cells #[.func (.func 64) #[] #[], .func (.func 65) #[] #[], .func (.func 66) #[] #[], .func (.func 67) #[] #[], .func (.func 68) #[] #[], .func (.func 72) #[] #[], .func (.func 74) #[] #[], .func (.func 76) #[] #[], .func (.func 78) #[] #[], .func (.func 80) #[] #[], .func (.func 82) #[] #[], .func (.func 84) #[] #[]] 75))
      clear hb1
      go_wp2_with fail
      obtain ⟨W2, hW2⟩ : ∃ W2, w1.alloc (.cells #[.func (.func 64) #[] #[], .func (.func 65) #[] #[], .func (.func 66) #[] #[], .func (.func 67) #[] #[], .func (.func 68) #[] #[], .func (.func 72) #[] #[], .func (.func 74) #[] #[], .func (.func 76) #[] #[], .func (.func 78) #[] #[], .func (.func 80) #[] #[], .func (.func 82) #[] #[], .func (.func 84) #[] #[]] 75) = W2 := ⟨_, rfl⟩
      rw [hW2] at Q1
      simp only [hW2]
      obtain ⟨c0, c1, c2, c3, c4, c5, c6, c7, c8, c9, c10, c11, c12, c13⟩ := Q1.out.cells
      go_quiet (fail)
      go_wp2_with fail
      go_ret
      exact ⟨Bo.ret_int NO.out.symm, Bo.below_drewN Q1.out.below _⟩
    | false =>
      obtain rfl : b2 = true := by simpa using e3
      go_enter Tryz.func19, Tryz.ntmps19
      go_wp2_with fail
      refine (KI.out _).mono ?_
      rintro e w1 ⟨rfl, hb1⟩
      have Q1 := Lib.hid ((Q.out.next hb1).alloc (.cells #[.func (.func 64) #[] #[], .func (.func 65) #[] #[], .func (.func 66) #[] #[], .func (.func 67) #[] #[], .func (.func 68) #[] #[], .func (.func 72) #[] #[], .func (.func 74) #[] #[], .func (.func 76) #[] #[], .func (.func 78) #[] #[], .func (.func 80) #[] #[], .func (.func 82) #[] #[], .func (.func 84) #[] #[]] 75))
      clear hb1
      go_wp2_with fail
      obtain ⟨W2, hW2⟩ : ∃ W2, w1.alloc (.cells #[.func (.func 64) #[] #[], .func (.func 65) #[] #[], .func (.func 66) #[] #[], .func (.func 67) #[] #[], .func (.func 68) #[] #[], .func (.func 72) #[] #[], .func (.func 74) #[] #[], .func (.func 76) #[] #[], .func (.func 78) #[] #[], .func (.func 80) #[] #[], .func (.func 82) #[] #[], .func (.func 84) #[] #[]] 75) = W2 := ⟨_, rfl⟩
      rw [hW2] at Q1
      simp only [hW2]
      obtain ⟨c0, c1, c2, c3, c4, c5, c6, c7, c8, c9, c10, c11, c12, c13⟩ := Q1.out.cells
      go_quiet (fail)
      go_wp2_with fail
      go_ret
      exact ⟨Bo.ret_int NO.out.symm, Bo.below_drewN Q1.out.below _⟩
  · obtain ⟨i, hi, hk⟩ : ∃ i : Nat, i < 3 ∧ q.k = i := ⟨q.k.toNat, by omega, by omega⟩
    have VF := Lib.hid (fun r' hr' W L h => vF_any i hi q hk hx v r' hr' W L h)
    have EG := eg_vF hi
    clear lo h L hx
    rw [hk] at Q VF
    rw [hk]
    have i0 : (0 : Int) ≤ (i : Int) := by omega
    have i3 : (i : Int) < 3 := by omega
    have e1 : decide ((i : Int) < 0) = false := by rw [decide_eq_false_iff_not]; omega
    have e2 : decide ((3 : Int) ≤ (i : Int)) = false := by rw [decide_eq_false_iff_not]; omega
    obtain ⟨o, ho⟩ : ∃ o : Bool, o = true ↔ q.Ok := by
      by_cases k : q.Ok
      · exact ⟨true, by simp [k]⟩
      · exact ⟨false, by simp [k]⟩
    have VV := Lib.hid (fun W L h => VF.out o ho W L h)
    have RR : Hid (r = if o then 0 else 16) := Lib.hid (by
      rw [← hr]
      cases o with
      | true => exact Pl.P.err_ok.2 (ho.1 rfl)
      | false => exact Pl.P.err_no fun k => by cases ho.2 k)
    clear VF hr ho
    cases o with
    | true =>
      go_enter Tryz.func19, Tryz.ntmps19
      go_wp2_with fail
      refine (KI.out _).mono ?_
      rintro e w1 ⟨rfl, hb1⟩
      have Q1 := Lib.hid ((Q.out.next hb1).alloc (.cells #[.func (.func 64) #[] #[], .func (.func 65) #[] #[], .func (.func 66) #[] #[], .func (.func 67) #[] #[], .func (.func 68) #[] #[], .func (.func 72) #[] #[], .func (.func 74) #[] #[], .func (.func 76) #[] #[], .func (.func 78) #[] #[], .func (.func 80) #[] #[], .func (.func 82) #[] #[], .func (.func 84) #[] #[]] 75))
      clear hb1
      go_wp2_with fail
      have TC := TAB.out w1 i hi
      obtain ⟨W2, hW2⟩ : ∃ W2, w1.alloc (.cells #[.func (.func 64) #[] #[], .func (.func 65) #[] #[], .func (.func 66) #[] #[], .func (.func 67) #[] #[], .func (.func 68) #[] #[], .func (.func 72) #[] #[], .func (.func 74) #[] #[], .func (.func 76) #[] #[], .func (.func 78) #[] #[], .func (.func 80) #[] #[], .func (.func 82) #[] #[], .func (.func 84) #[] #[]] 75) = W2 := ⟨_, rfl⟩
      have l1 : w1.heap.size < W2.heap.size := by rw [← hW2]; simp
      rw [hW2] at Q1 TC
      simp only [hW2]
      clear hW2
      obtain ⟨c0, c1, c2, c3, c4, c5, c6, c7, c8, c9, c10, c11, c12, c13⟩ := Q1.out.cells
      rw [hk] at c0
      have z0 := TC
      go_region_held3 (fun w' => (w'.cell? ⟨w.heap.size, 0, none⟩ = some (.int .i64 (i : Int)) ∧ w'.cell? ⟨w.heap.size, 1, none⟩ = some (.int .u64 q.x.a0) ∧ w'.cell? ⟨w.heap.size, 2, none⟩ = some (.int .u64 q.x.a1) ∧ w'.cell? ⟨w.heap.size, 3, none⟩ = some (.int .u64 q.x.a2) ∧ w'.cell? ⟨w.heap.size, 4, none⟩ = some (.int .u64 q.x.a3) ∧ w'.cell? ⟨w.heap.size, 5, none⟩ = some (.int .u64 q.x.a4) ∧ w'.cell? ⟨w.heap.size, 6, none⟩ = some (.int .u64 q.x.a5) ∧ w'.cell? ⟨w.heap.size, 7, none⟩ = some (.bool q.x.b3) ∧ w'.cell? ⟨w.heap.size, 8, none⟩ = some (.bool q.x.b5) ∧ w'.cell? ⟨w.heap.size, 9, none⟩ = some (.int .i64 q.z) ∧ w'.cell? ⟨w.heap.size, 10, none⟩ = some (.int .i64 q.s) ∧ w'.cell? ⟨w.heap.size, 11, none⟩ = some (.int .i64 q.p) ∧ w'.cell? ⟨w.heap.size, 12, none⟩ = some (.int .i64 q.c) ∧ w'.cell? ⟨w.heap.size, 13, none⟩ = some (v)) ∧ w'.cell? ⟨w1.heap.size, i * 4, none⟩ = some (.func (.func (vF i)) #[] #[])) (go_keep)
        ((refine (VV.out _ (by first | exact Q1.out.lay | exact Q1.out.drew.lay) (by first | exact Q1.out.sp | exact Q1.out.drew.sp)).mono ?_; rintro e w3 ⟨rfl, hb3⟩; have Q3 := Lib.hid ((show PB w w.heap.size q v _ by first | exact Q1.out | exact Q1.out.drew).next hb3); obtain ⟨x0, x1, x2, x3, x4, x5, x6, x7, x8, x9, x10, x11, x12, x13⟩ := Q3.out.cells; have z3 := hb3.cell (p := ⟨w1.heap.size, i * 4, none⟩) (by simp; omega)))
      go_wp2_with fail
      go_ret
      exact ⟨Bo.ret_int (by rw [RR.out]; rfl), Q3.out.below⟩
    | false =>
      go_enter Tryz.func19, Tryz.ntmps19
      go_wp2_with fail
      refine (KI.out _).mono ?_
      rintro e w1 ⟨rfl, hb1⟩
      have Q1 := Lib.hid ((Q.out.next hb1).alloc (.cells #[.func (.func 64) #[] #[], .func (.func 65) #[] #[], .func (.func 66) #[] #[], .func (.func 67) #[] #[], .func (.func 68) #[] #[], .func (.func 72) #[] #[], .func (.func 74) #[] #[], .func (.func 76) #[] #[], .func (.func 78) #[] #[], .func (.func 80) #[] #[], .func (.func 82) #[] #[], .func (.func 84) #[] #[]] 75))
      clear hb1
      go_wp2_with fail
      have TC := TAB.out w1 i hi
      obtain ⟨W2, hW2⟩ : ∃ W2, w1.alloc (.cells #[.func (.func 64) #[] #[], .func (.func 65) #[] #[], .func (.func 66) #[] #[], .func (.func 67) #[] #[], .func (.func 68) #[] #[], .func (.func 72) #[] #[], .func (.func 74) #[] #[], .func (.func 76) #[] #[], .func (.func 78) #[] #[], .func (.func 80) #[] #[], .func (.func 82) #[] #[], .func (.func 84) #[] #[]] 75) = W2 := ⟨_, rfl⟩
      have l1 : w1.heap.size < W2.heap.size := by rw [← hW2]; simp
      rw [hW2] at Q1 TC
      simp only [hW2]
      clear hW2
      obtain ⟨c0, c1, c2, c3, c4, c5, c6, c7, c8, c9, c10, c11, c12, c13⟩ := Q1.out.cells
      rw [hk] at c0
      have z0 := TC
      go_region_held3 (fun w' => (w'.cell? ⟨w.heap.size, 0, none⟩ = some (.int .i64 (i : Int)) ∧ w'.cell? ⟨w.heap.size, 1, none⟩ = some (.int .u64 q.x.a0) ∧ w'.cell? ⟨w.heap.size, 2, none⟩ = some (.int .u64 q.x.a1) ∧ w'.cell? ⟨w.heap.size, 3, none⟩ = some (.int .u64 q.x.a2) ∧ w'.cell? ⟨w.heap.size, 4, none⟩ = some (.int .u64 q.x.a3) ∧ w'.cell? ⟨w.heap.size, 5, none⟩ = some (.int .u64 q.x.a4) ∧ w'.cell? ⟨w.heap.size, 6, none⟩ = some (.int .u64 q.x.a5) ∧ w'.cell? ⟨w.heap.size, 7, none⟩ = some (.bool q.x.b3) ∧ w'.cell? ⟨w.heap.size, 8, none⟩ = some (.bool q.x.b5) ∧ w'.cell? ⟨w.heap.size, 9, none⟩ = some (.int .i64 q.z) ∧ w'.cell? ⟨w.heap.size, 10, none⟩ = some (.int .i64 q.s) ∧ w'.cell? ⟨w.heap.size, 11, none⟩ = some (.int .i64 q.p) ∧ w'.cell? ⟨w.heap.size, 12, none⟩ = some (.int .i64 q.c) ∧ w'.cell? ⟨w.heap.size, 13, none⟩ = some (v)) ∧ w'.cell? ⟨w1.heap.size, i * 4, none⟩ = some (.func (.func (vF i)) #[] #[])) (go_keep)
        ((refine (VV.out _ (by first | exact Q1.out.lay | exact Q1.out.drew.lay) (by first | exact Q1.out.sp | exact Q1.out.drew.sp)).mono ?_; rintro e w3 ⟨rfl, hb3⟩; have Q3 := Lib.hid ((show PB w w.heap.size q v _ by first | exact Q1.out | exact Q1.out.drew).next hb3); obtain ⟨x0, x1, x2, x3, x4, x5, x6, x7, x8, x9, x10, x11, x12, x13⟩ := Q3.out.cells; have z3 := hb3.cell (p := ⟨w1.heap.size, i * 4, none⟩) (by simp; omega)))
      go_wp2_with fail
      go_ret
      exact ⟨Bo.ret_int (by rw [RR.out]; rfl), Q3.out.below⟩

set_option maxRecDepth 100000 in
set_option maxHeartbeats 4000000 in
/-- check of a plan and of times -/
theorem pcheck_any (q : Pl.P) (hx : q.x.Bd) (v : Value) (B : Nat) (ts : List Int) (hl : ts.length ≤ 2) (r : Int) (hr : q.errT ts = r) (w : World) (L : LayM w) (h : Bo.RowS w v q.l) (R : Row w B 2 (ts.map (.int .i64 ·))) :
    Calls Tryz.prog 35 #[.agg #[.int .i64 q.k, .int .u64 q.x.a0, .int .u64 q.x.a1, .int .u64 q.x.a2, .int .u64 q.x.a3, .int .u64 q.x.a4, .int .u64 q.x.a5, .bool q.x.b3, .bool q.x.b5, .int .i64 q.z, .int .i64 q.s, .int .i64 q.p, .int .i64 q.c, v], .slice (some ⟨B, 0, none⟩) ts.length ts.length] w fun e w' => e = .returned (.int .i64 r) ∧ Below w.heap.size w w' := by
  have Q := Lib.hid (PB.start L h)
  have RR := Lib.hid (R.alloc (.cells #[.int .i64 q.k, .int .u64 q.x.a0, .int .u64 q.x.a1, .int .u64 q.x.a2, .int .u64 q.x.a3, .int .u64 q.x.a4, .int .u64 q.x.a5, .bool q.x.b3, .bool q.x.b5, .int .i64 q.z, .int .i64 q.s, .int .i64 q.p, .int .i64 q.c, v] 29))
  have LN := Lib.hid hl
  obtain ⟨ep, hep⟩ : ∃ ep, q.err = ep := ⟨_, rfl⟩
  have CK := Lib.hid (fun W L h => pchk_any q hx v ep hep W L h)
  have CV := Lib.hid (fun t r hr W => pvalid_any t r hr W)
  rcases q.errT_cases ts with ⟨e1, e2⟩ | e3
  · obtain rfl : ep = 16 := hep.symm.trans e2
    have E : Hid (r = 16) := Lib.hid (hr.symm.trans e1)
    clear R hl hr hep e1 e2 h L hx RR
    go_enter Tryz.func35, Tryz.ntmps35
    go_wp2_with fail
    refine (CK.out _ Q.out.lay Q.out.sp).mono ?_
    rintro e w1 ⟨rfl, hb1⟩
    have Q1 := Lib.hid (Q.out.next hb1)
    clear hb1
    go_wp2_with fail
    go_ret
    exact ⟨Bo.ret_int E.out.symm, Q1.out.below⟩
  · have e2' : q.err = 0 := by rcases e3 with h | h <;> exact h.1
    obtain rfl : ep = 0 := hep.symm.trans e2'
    have E : Hid (r = if ts.all (fun t => decide (Pl.vt t)) = true then 0 else 14) := Lib.hid (by rw [← hr]; unfold Pl.P.errT; rw [if_pos e2'])
    clear R hl hr hep e3 e2' h L hx
    go_enter Tryz.func35, Tryz.ntmps35
    go_wp2_with fail
    refine (CK.out _ Q.out.lay Q.out.sp).mono ?_
    rintro e V ⟨rfl, hb1⟩
    have Q1 := Lib.hid (Q.out.next hb1)
    have RV := Lib.hid (RR.out.below hb1)
    clear hb1 RR
    go_wp2_with fail
    go_loopw [15] (fun i wr => ∃ k : Nat, k ≤ ts.length ∧ i = .int .i64 k ∧ Hid ((ts.take k).all (fun t => decide (Pl.vt t)) = true) ∧ V = wr) (fun i _ => ts.length - (intOf i).toNat)
    case atStart => exact ⟨0, Nat.zero_le _, rfl, Lib.hid rfl, rfl⟩
    case round =>
      obtain ⟨k, hk, rfl, hall, rfl⟩ := hrel
      by_cases hlt : k < ts.length
      · have e0 : decide ((k : Int) < (ts.length : Int)) = true := by rw [decide_eq_true_iff]; omega
        obtain ⟨t, ht⟩ : ∃ t, ts[k] = t := ⟨_, rfl⟩
        have hc : V.cell? ⟨B, k, none⟩ = some (.int .i64 t) := by rw [RV.out.cell k, List.getElem?_map, List.getElem?_eq_getElem hlt, ht]; rfl
        have TK : Hid (ts.take (k + 1) = ts.take k ++ [t]) := Lib.hid (by rw [← ht]; exact (List.take_append_getElem hlt).symm)
        have TM : Hid (t ∈ ts) := Lib.hid (by rw [← ht]; exact List.getElem_mem hlt)
        have wk : IntKind.i64.wrap ((k : Int) + 1) = (k : Int) + 1 := by have := LN.out; rw [IntKind.wrap_i64]; omega
        clear ht
        by_cases tv : Pl.vt t
        · have YES := Lib.hid (decide_eq_true tv)
          have CVT := Lib.hid (fun W => CV.out t true (decide_eq_true tv) W)
          clear tv
          go_wp2_with fail
          refine (CVT.out _).mono ?_
          rintro e _ ⟨rfl, rfl⟩
          go_wp2_with fail
          go_roundw
          case rel => exact ⟨k + 1, by omega, by go_num, Lib.hid (by rw [TK.out, List.all_append, hall.out]; simp [YES.out]), by first | rfl | trivial⟩
          case measure => simp [intOf]; omega
        · have NO : Hid (ts.all (fun t => decide (Pl.vt t)) = false) := Lib.hid (by
            rw [List.all_eq_false]
            exact ⟨t, TM.out, by simpa using tv⟩)
          have CVT := Lib.hid (fun W => CV.out t false (decide_eq_false tv) W)
          clear tv
          go_wp2_with fail
          refine (CVT.out _).mono ?_
          rintro e _ ⟨rfl, rfl⟩
          go_wp2_with fail
          go_ret
          exact ⟨Bo.ret_int (by rw [E.out, NO.out]; rfl), Q1.out.below⟩
      · have e0 : decide ((k : Int) < (ts.length : Int)) = false := by rw [decide_eq_false_iff_not]; omega
        have hall' : ts.all (fun t => decide (Pl.vt t)) = true := by have := hall.out; rwa [List.take_of_length_le (by omega)] at this
        have HA := Lib.hid hall'
        clear hall' hall
        obtain rfl : k = ts.length := by omega
        clear hlt hk
        go_wp2_with fail
        go_ret
        exact ⟨Bo.ret_int (by rw [E.out, HA.out]; rfl), Q1.out.below⟩
end Go.Proofs.YtljackjcgfaanaaGreatDoor
/- plan's has; the first time of a kind; Is. -/
namespace Go.Proofs.YtljackjcgfaanaaGreatDoor
open Go.ChangeShapes Go.RowKit

theorem kind_index (i : Nat) (hi : i < 3) (W : World) : (Instr.index 75 (.agg #[.func (.func 64) #[] #[], .func (.func 65) #[] #[], .func (.func 66) #[] #[], .func (.func 67) #[] #[], .func (.func 68) #[] #[], .func (.func 72) #[] #[], .func (.func 74) #[] #[], .func (.func 76) #[] #[], .func (.func 78) #[] #[], .func (.func 80) #[] #[], .func (.func 82) #[] #[], .func (.func 84) #[] #[]]) (.int .i64 (i : Int))).run Tryz.prog W = .ok (.agg #[.func (.func (vF i)) #[] #[], .func (.func (hasF i)) #[] #[], .func (.func (nextF i)) #[] #[], .func (.func (cntF i)) #[] #[]]) W :=
  three (P := fun i => (Instr.index 75 (.agg #[.func (.func 64) #[] #[], .func (.func 65) #[] #[], .func (.func 66) #[] #[], .func (.func 67) #[] #[], .func (.func 68) #[] #[], .func (.func 72) #[] #[], .func (.func 74) #[] #[], .func (.func 76) #[] #[], .func (.func 78) #[] #[], .func (.func 80) #[] #[], .func (.func 82) #[] #[], .func (.func 84) #[] #[]]) (.int .i64 (i : Int))).run Tryz.prog W = .ok (.agg #[.func (.func (vF i)) #[] #[], .func (.func (hasF i)) #[] #[], .func (.func (nextF i)) #[] #[], .func (.func (cntF i)) #[] #[]]) W) hi (by kernel_rfl) (by kernel_rfl) (by kernel_rfl)
theorem kind_field (i : Nat) (hi : i < 3) (W : World) : (Instr.field 74 (.agg #[.func (.func (vF i)) #[] #[], .func (.func (hasF i)) #[] #[], .func (.func (nextF i)) #[] #[], .func (.func (cntF i)) #[] #[]]) 1).run Tryz.prog W = .ok (.func (.func (hasF i)) #[] #[]) W :=
  three (P := fun i => (Instr.field 74 (.agg #[.func (.func (vF i)) #[] #[], .func (.func (hasF i)) #[] #[], .func (.func (nextF i)) #[] #[], .func (.func (cntF i)) #[] #[]]) 1).run Tryz.prog W = .ok (.func (.func (hasF i)) #[] #[]) W) hi (by kernel_rfl) (by kernel_rfl) (by kernel_rfl)
theorem skip_free {q : Pl.P} (ok : q.Ok) {t : Int} (ht : Pl.vt t) : Bk.errI q.l t = 0 := Bk.errI_zero.2 ⟨ok.spans, ht⟩
set_option maxRecDepth 100000 in
set_option maxHeartbeats 4000000 in
theorem phas_any (q : Pl.P) (ok : q.Ok) (hx : q.x.Bd) (v : Value) (t : Int) (ht : Pl.vt t) (b : Bool) (hb : b = true ↔ q.K t) (w : World) (L : LayM w) (h : Bo.RowS w v q.l) :
    Calls Tryz.prog 36 #[.agg #[.int .i64 q.k, .int .u64 q.x.a0, .int .u64 q.x.a1, .int .u64 q.x.a2, .int .u64 q.x.a3, .int .u64 q.x.a4, .int .u64 q.x.a5, .bool q.x.b3, .bool q.x.b5, .int .i64 q.z, .int .i64 q.s, .int .i64 q.p, .int .i64 q.c, v], .int .i64 t] w fun e w' => e = .returned (.bool b) ∧ Below w.heap.size w w' := by
  have Q := Lib.hid (PB.start L h)
  have e0 := skip_free ok ht
  by_cases sk : Bk.has q.l t
  · have IN := Lib.hid (fun W hh => Bo.in_any v q.l t true 0 e0 (decide_eq_true ⟨rfl, sk⟩) W hh)
    have NO := Lib.hid (r_no hb (fun k => k.2 sk))
    clear hb e0 sk L h ok ht hx
    go_enter Tryz.func36, Tryz.ntmps36
    go_wp2_with fail
    refine (IN.out _ Q.out.sp).mono ?_
    rintro e w1 ⟨rfl, hb1⟩
    have Q1 := Lib.hid (Q.out.next hb1)
    clear hb1
    go_wp2_with fail
    go_quiet (fail)
    go_wp2_with fail
    go_ret
    exact ⟨Bo.ret_bool NO.out.symm, Bo.below_drewN Q1.out.below _⟩
  · have IN := Lib.hid (fun W hh => Bo.in_any v q.l t false 0 e0 (decide_eq_false fun k => sk k.2) W hh)
    obtain ⟨i, hi, hk⟩ := P_kind ok
    have HT : b = true ↔ q.T t := hb.trans ⟨fun k => k.1, fun k => ⟨k, sk⟩⟩
    have HF := Lib.hid (fun W L h => hasF_any i hi q hk ok hx v t ht b HT W L h)
    have KI := Lib.hid (fun W => kinds_any W)
    have EG := eg_hasF hi
    have ix := kind_index i hi
    have fx := kind_field i hi
    have i0 : (0 : Int) ≤ (i : Int) := by omega
    have i3 : (i : Int) < 3 := by omega
    rw [hk] at Q HF
    rw [hk]
    clear hb HT e0 sk L h ok ht hx
    go_enter Tryz.func36, Tryz.ntmps36
    go_wp2_with fail
    refine (IN.out _ Q.out.sp).mono ?_
    rintro e w1 ⟨rfl, hb1⟩
    have Q1 := Lib.hid (Q.out.next hb1)
    obtain ⟨c0, c1, c2, c3, c4, c5, c6, c7, c8, c9, c10, c11, c12, c13⟩ := Q1.out.cells
    rw [hk] at c0
    clear hb1
    go_wp2_with fail
    go_region_held3 (fun w' => w'.cell? ⟨w.heap.size, 0, none⟩ = some (.int .i64 (i : Int)) ∧ w'.cell? ⟨w.heap.size, 1, none⟩ = some (.int .u64 q.x.a0) ∧ w'.cell? ⟨w.heap.size, 2, none⟩ = some (.int .u64 q.x.a1) ∧ w'.cell? ⟨w.heap.size, 3, none⟩ = some (.int .u64 q.x.a2) ∧ w'.cell? ⟨w.heap.size, 4, none⟩ = some (.int .u64 q.x.a3) ∧ w'.cell? ⟨w.heap.size, 5, none⟩ = some (.int .u64 q.x.a4) ∧ w'.cell? ⟨w.heap.size, 6, none⟩ = some (.int .u64 q.x.a5) ∧ w'.cell? ⟨w.heap.size, 7, none⟩ = some (.bool q.x.b3) ∧ w'.cell? ⟨w.heap.size, 8, none⟩ = some (.bool q.x.b5) ∧ w'.cell? ⟨w.heap.size, 9, none⟩ = some (.int .i64 q.z) ∧ w'.cell? ⟨w.heap.size, 10, none⟩ = some (.int .i64 q.s) ∧ w'.cell? ⟨w.heap.size, 11, none⟩ = some (.int .i64 q.p) ∧ w'.cell? ⟨w.heap.size, 12, none⟩ = some (.int .i64 q.c) ∧ w'.cell? ⟨w.heap.size, 13, none⟩ = some (v)) (go_keep)
      ((first
        | (go_at_call 43; refine (KI.out _).mono ?_; rintro e w2 ⟨rfl, hb2⟩; have Q1 := Lib.hid ((show PB w w.heap.size q v _ by first | exact Q1.out | exact Q1.out.drew).next hb2); obtain ⟨y0, y1, y2, y3, y4, y5, y6, y7, y8, y9, y10, y11, y12, y13⟩ := Q1.out.cells; rw [hk] at y0)
        | (refine (HF.out _ Q1.out.lay Q1.out.sp).mono ?_; rintro e w3 ⟨rfl, hb3⟩; have Q3 := Lib.hid (Q1.out.next hb3); obtain ⟨x0, x1, x2, x3, x4, x5, x6, x7, x8, x9, x10, x11, x12, x13⟩ := Q3.out.cells; rw [hk] at x0)))
    all_goals
      go_wp2_with fail
      go_ret
      exact ⟨rfl, Q3.out.below⟩

set_option maxRecDepth 100000 in
set_option maxHeartbeats 4000000 in
theorem pfirst_any (i : Nat) (hi : i < 3) (q : Pl.P) (hk : q.k = i) (ok : q.Ok) (hx : q.x.Bd) (v : Value) (t : Int) (ht : Pl.vt t) (r : Option Int) (hr : Mat.Least q.T t 253402300799 r) (w : World) (L : LayM w) (h : Bo.RowS w v q.l) :
    Calls Tryz.prog 60 #[.agg #[.func (.func (vF i)) #[] #[], .func (.func (hasF i)) #[] #[], .func (.func (nextF i)) #[] #[], .func (.func (cntF i)) #[] #[]], .agg #[.int .i64 q.k, .int .u64 q.x.a0, .int .u64 q.x.a1, .int .u64 q.x.a2, .int .u64 q.x.a3, .int .u64 q.x.a4, .int .u64 q.x.a5, .bool q.x.b3, .bool q.x.b5, .int .i64 q.z, .int .i64 q.s, .int .i64 q.p, .int .i64 q.c, v], .int .i64 t] w fun e w' => e = .returned (.tuple #[.int .i64 (r.getD 0), .bool r.isSome]) ∧ Below w.heap.size w w' := by
  have Q : Hid (PB w (w.heap.size + 1) q v ((w.alloc (.cells #[.func (.func (vF i)) #[] #[], .func (.func (hasF i)) #[] #[], .func (.func (nextF i)) #[] #[], .func (.func (cntF i)) #[] #[]] 74)).alloc (.cells #[.int .i64 q.k, .int .u64 q.x.a0, .int .u64 q.x.a1, .int .u64 q.x.a2, .int .u64 q.x.a3, .int .u64 q.x.a4, .int .u64 q.x.a5, .bool q.x.b3, .bool q.x.b5, .int .i64 q.z, .int .i64 q.s, .int .i64 q.p, .int .i64 q.c, v] 29))) := Lib.hid (by
    have B1 : Below w.heap.size w (w.alloc (.cells #[.func (.func (vF i)) #[] #[], .func (.func (hasF i)) #[] #[], .func (.func (nextF i)) #[] #[], .func (.func (cntF i)) #[] #[]] 74)) := (Below.refl _ _).alloc (Nat.le_refl _) _
    have p := PB.start (q := q) (v := v) (L.alloc (.cells #[.func (.func (vF i)) #[] #[], .func (.func (hasF i)) #[] #[], .func (.func (nextF i)) #[] #[], .func (.func (cntF i)) #[] #[]] 74)) (h.alloc (.cells #[.func (.func (vF i)) #[] #[], .func (.func (hasF i)) #[] #[], .func (.func (nextF i)) #[] #[], .func (.func (cntF i)) #[] #[]] 74))
    have row := p.row
    rw [World.size_alloc] at row
    exact ⟨B1.trans (p.below.mono (by simp)), row, p.sp, p.lay⟩)
  have KR : Hid (((w.alloc (.cells #[.func (.func (vF i)) #[] #[], .func (.func (hasF i)) #[] #[], .func (.func (nextF i)) #[] #[], .func (.func (cntF i)) #[] #[]] 74)).alloc (.cells #[.int .i64 q.k, .int .u64 q.x.a0, .int .u64 q.x.a1, .int .u64 q.x.a2, .int .u64 q.x.a3, .int .u64 q.x.a4, .int .u64 q.x.a5, .bool q.x.b3, .bool q.x.b5, .int .i64 q.z, .int .i64 q.s, .int .i64 q.p, .int .i64 q.c, v] 29)).cell? ⟨w.heap.size, 2, none⟩ = some (.func (.func (nextF i)) #[] #[])) := Lib.hid (((Row.new w [.func (.func (vF i)) #[] #[], .func (.func (hasF i)) #[] #[], .func (.func (nextF i)) #[] #[], .func (.func (cntF i)) #[] #[]] 74).alloc (.cells #[.int .i64 q.k, .int .u64 q.x.a0, .int .u64 q.x.a1, .int .u64 q.x.a2, .int .u64 q.x.a3, .int .u64 q.x.a4, .int .u64 q.x.a5, .bool q.x.b3, .bool q.x.b5, .int .i64 q.z, .int .i64 q.s, .int .i64 q.p, .int .i64 q.c, v] 29)).cell 2)
  have EG := eg_hasF hi
  have EN := eg_nextF hi
  by_cases T : q.T t
  · obtain rfl : r = some t := hr.uniq (Pl.least_here ht.2 T)
    have HF := Lib.hid (fun W L h => hasF_any i hi q hk ok hx v t ht true (by simp [T]) W L h)
    clear hr ht ok hx h L T hk hi KR
    go_enter Tryz.func60, Tryz.ntmps60
    go_wp2_with fail
    refine (HF.out _ Q.out.lay Q.out.sp).mono ?_
    rintro e w1 ⟨rfl, hb1⟩
    have Q1 := Lib.hid (Q.out.next hb1)
    clear hb1
    go_wp2_with fail
    go_ret2
    exact ⟨rfl, Q1.out.below⟩
  · obtain ⟨r', hr'⟩ := Mat.least_ex q.T (t + 1) 253402300799
    obtain rfl : r = r' := hr.uniq (Pl.least_next T hr')
    have HF := Lib.hid (fun W L h => hasF_any i hi q hk ok hx v t ht false (by simp [T]) W L h)
    have NF := Lib.hid (fun W L h => nextF_any i hi q hk ok hx v t ht r hr' W L h)
    clear hr hr' ht ok hx h L T hk hi
    go_enter Tryz.func60, Tryz.ntmps60
    go_wp2_with fail
    refine (HF.out _ Q.out.lay Q.out.sp).mono ?_
    rintro e w1 ⟨rfl, hb1⟩
    have Q1 := Lib.hid (Q.out.next hb1)
    have k2 := (hb1.cell (p := ⟨w.heap.size, 2, none⟩) (by simp; omega)).trans KR.out
    obtain ⟨c0, c1, c2, c3, c4, c5, c6, c7, c8, c9, c10, c11, c12, c13⟩ := Q1.out.cells
    clear hb1
    go_wp2_with fail
    refine (NF.out _ Q1.out.lay Q1.out.sp).mono ?_
    rintro e w2 ⟨rfl, hb2⟩
    have Q2 := Lib.hid (Q1.out.next hb2)
    clear hb2
    go_wp2_with fail
    go_ret2
    exact ⟨rfl, Q2.out.below⟩

theorem isR_one (q : Pl.P) (v : Value) (t : Int) (w : World) (L : LayM w) (h : Bo.RowS w v q.l) : PB w w.heap.size q v ((w.alloc (.cells #[.int .i64 q.k, .int .u64 q.x.a0, .int .u64 q.x.a1, .int .u64 q.x.a2, .int .u64 q.x.a3, .int .u64 q.x.a4, .int .u64 q.x.a5, .bool q.x.b3, .bool q.x.b5, .int .i64 q.z, .int .i64 q.s, .int .i64 q.p, .int .i64 q.c, v] 29)).alloc (.cells #[.int .i64 t] 2)) ∧ Row ((w.alloc (.cells #[.int .i64 q.k, .int .u64 q.x.a0, .int .u64 q.x.a1, .int .u64 q.x.a2, .int .u64 q.x.a3, .int .u64 q.x.a4, .int .u64 q.x.a5, .bool q.x.b3, .bool q.x.b5, .int .i64 q.z, .int .i64 q.s, .int .i64 q.p, .int .i64 q.c, v] 29)).alloc (.cells #[.int .i64 t] 2)) (w.heap.size + 1) 2 ([t].map (.int .i64 ·)) := by
  refine ⟨(PB.start L h).alloc _, ?_⟩
  have := Row.new (w.alloc (.cells #[.int .i64 q.k, .int .u64 q.x.a0, .int .u64 q.x.a1, .int .u64 q.x.a2, .int .u64 q.x.a3, .int .u64 q.x.a4, .int .u64 q.x.a5, .bool q.x.b3, .bool q.x.b5, .int .i64 q.z, .int .i64 q.s, .int .i64 q.p, .int .i64 q.c, v] 29)) ([t].map (.int .i64 ·)) 2
  rwa [World.size_alloc] at this
set_option maxRecDepth 100000 in
set_option maxHeartbeats 4000000 in
theorem pis_any (q : Pl.P) (hx : q.x.Bd) (v : Value) (t : Int) (b : Bool) (r : Int) (hr : Pl.IsR q t b r) (w : World) (L : LayM w) (h : Bo.RowS w v q.l) :
    Calls Tryz.prog 15 #[.agg #[.int .i64 q.k, .int .u64 q.x.a0, .int .u64 q.x.a1, .int .u64 q.x.a2, .int .u64 q.x.a3, .int .u64 q.x.a4, .int .u64 q.x.a5, .bool q.x.b3, .bool q.x.b5, .int .i64 q.z, .int .i64 q.s, .int .i64 q.p, .int .i64 q.c, v], .int .i64 t] w fun e w' => e = .returned (.tuple #[.bool b, .int .i64 r]) ∧ Below w.heap.size w w' := by
  obtain ⟨q1, q2⟩ := isR_one q v t w L h
  have Q := Lib.hid q1
  have RW := Lib.hid q2
  obtain ⟨h1, h2⟩ := hr
  have CK := Lib.hid (fun W L h R => pcheck_any q hx v (w.heap.size + 1) [t] (by simp) r h1.symm W L h R)
  by_cases z : r = 0
  · subst z
    obtain ⟨ok, ht⟩ := Pl.P.errT_zero.1 h1.symm
    have PH := Lib.hid (fun W L h => phas_any q ok hx v t (ht t (by simp)) b (h2.trans (by simp)) W L h)
    clear hx L h h1 h2 ok ht q1 q2
    go_enter Tryz.func15, Tryz.ntmps15
    go_wp2_with fail
    refine (CK.out _ Q.out.lay Q.out.sp RW.out).mono ?_
    rintro e w1 ⟨rfl, hb1⟩
    have Q1 := Lib.hid (Q.out.next hb1)
    obtain ⟨c0, c1, c2, c3, c4, c5, c6, c7, c8, c9, c10, c11, c12, c13⟩ := Q1.out.cells
    clear hb1
    go_wp2_with fail
    refine (PH.out _ Q1.out.lay Q1.out.sp).mono ?_
    rintro e w2 ⟨rfl, hb2⟩
    have Q2 := Lib.hid (Q1.out.next hb2)
    clear hb2
    go_wp2_with fail
    go_ret2
    exact ⟨rfl, Q2.out.below⟩
  · have d1 : (r != 0) = true := by simpa using z
    obtain rfl : b = false := r_no h2 (fun k => z k.1)
    clear hx L h h1 h2 z q1 q2
    go_enter Tryz.func15, Tryz.ntmps15
    go_wp2_with fail
    refine (CK.out _ Q.out.lay Q.out.sp RW.out).mono ?_
    rintro e w1 ⟨rfl, hb1⟩
    have Q1 := Lib.hid (Q.out.next hb1)
    clear hb1
    go_wp2_with fail
    go_ret2
    exact ⟨rfl, Q1.out.below⟩
end Go.Proofs.YtljackjcgfaanaaGreatDoor
/- The iterator over the times of a plan. -/
namespace Go.Proofs.YtljackjcgfaanaaGreatDoor
open Go.ChangeShapes Go.RowKit Go.Shelf

/-- what a round keeps: what lay ahead of the iterator, but for the caller's own boxes, and all cells but rows of times -/
structure Ki (own : Nat → Prop) (n₀ : Nat) (A B : World) : Prop where
  size : A.heap.size ≤ B.heap.size
  old : ∀ b, b < n₀ → ¬ own b → B.heap[b]? = A.heap[b]?
  keep : ∀ b c t f, ¬ own b → A.heap[b]? = some (.cells c t f) → t ≠ 2 → B.heap[b]? = some (.cells c t f)
theorem Ki.refl (own : Nat → Prop) (n₀ : Nat) (A : World) : Ki own n₀ A A := ⟨Nat.le_refl _, fun _ _ _ => rfl, fun _ _ _ _ _ h _ => h⟩
theorem Ki.trans {own : Nat → Prop} {n₀ : Nat} {A B C : World} (h : Ki own n₀ A B) (k : Ki own n₀ B C) : Ki own n₀ A C :=
  ⟨Nat.le_trans h.size k.size, fun b hb ho => (k.old b hb ho).trans (h.old b hb ho), fun b c t f ho q ht => k.keep b c t f ho (h.keep b c t f ho q ht) ht⟩
theorem Ki.put {own : Nat → Prop} {n₀ : Nat} (W : World) (l : Nat) (o o' : Obj) (hn : n₀ ≤ l) (hl : W.heap[l]? = some o) (ho : o.isCells = false) : Ki own n₀ W (W.putObj l o') :=
  ⟨by simp, fun b hb _ => World.putObj_heap_other (by omega), fun b c t f _ q _ => by
    by_cases e : b = l
    · subst e; rw [hl] at q; cases q; cases ho
    · exact (World.putObj_heap_other e).trans q⟩
theorem Ki.book {own : Nat → Prop} {n₀ : Nat} {w : World} (hn : n₀ ≤ w.heap.size) : ∀ (W : World) (l : Nat) (o o' : Obj), w.heap.size ≤ l → W.heap[l]? = some o → o.isCells = false → o.isWalk = false → Ki own n₀ W (W.putObj l o') :=
  fun W l _ o' hl h hc _ => Ki.put W l _ o' (Nat.le_trans hn hl) h hc
theorem Ki.of_below {own : Nat → Prop} {n₀ : Nat} {W W' : World} (h : Below W.heap.size W W') (hn : n₀ ≤ W.heap.size) : Ki own n₀ W W' :=
  ⟨h.size, fun b hb _ => h.block b (by omega), fun b _ _ _ _ q _ => (h.block b (Array.getElem?_eq_some_iff.1 q).1).trans q⟩
theorem Ki.below {own : Nat → Prop} {n₀ : Nat} {A W W' : World} (k : Ki own n₀ A W) (h : Below W.heap.size W W') (hn : n₀ ≤ A.heap.size) : Ki own n₀ A W' := k.trans (Ki.of_below h (Nat.le_trans hn k.size))
theorem Ki.cell {own : Nat → Prop} {n₀ : Nat} {A B : World} (h : Ki own n₀ A B) {p : Addr} (hp : p.block < n₀) (ho : ¬ own p.block) : B.cell? p = A.cell? p := World.cell?_of_block (h.old p.block hp ho)
theorem Ki.row {own : Nat → Prop} {n₀ : Nat} {A B : World} (h : Ki own n₀ A B) {b : Nat} {t : TypeId} {cs : List Value} (ho : ¬ own b) (ht : t ≠ 2) (r : Row A b t cs) : Row B b t cs := h.keep b _ _ _ ho r ht
theorem LayM.old {V B : World} (L : LayM V) (hs : V.heap.size ≤ B.heap.size) (h : ∀ b, b < V.heap.size → B.heap[b]? = V.heap[b]?) : LayM B :=
  LayM.kc (own := fun b => ¬ b < V.heap.size) ⟨hs, fun b _ hb ho _ => (h b (Classical.not_not.1 hb)).trans ho⟩ (fun k => k L.b.lt) (fun k => k L.c.lt) L
/-- what lay there when the iterator was made lies there still -/
theorem Ki.base {own : Nat → Prop} {n₀ : Nat} {V A B : World} (h : Ki own n₀ A B) (hV : Below V.heap.size V A) (ho : ∀ b, own b → V.heap.size ≤ b) (hn : V.heap.size ≤ n₀) : ∀ b, b < V.heap.size → B.heap[b]? = V.heap[b]? :=
  fun b hb => (h.old b (by omega) (fun q => by have := ho b q; omega)).trans (hV.block b hb)
theorem rowS_old {V B : World} {v : Value} {l : List (Int × Int)} (r : Bo.RowS V v l) (h : ∀ b, b < V.heap.size → B.heap[b]? = V.heap[b]?) : Bo.RowS B v l := by
  obtain ⟨h0, hz, C, cap, e, c⟩ := r
  refine ⟨h0, hz, C, cap, e, fun j hj => ?_⟩
  obtain ⟨b, o, e1, e2, e3⟩ := c j hj
  have hb := Bo.lt_of_cell e2
  exact ⟨b, o, e1, (World.cell?_of_block (h b hb)).trans e2, (World.cell?_of_block (h b hb)).trans e3⟩
theorem ki_drewN {β : Type} {B : Nat} {J : β → World → Prop} (h : AbidesFrom B J) {s : β} {W : World} (hs : J s W) (n : Nat) : J s (W.drewN n) :=
  h s W _ none hs ⟨rfl, rfl, rfl, Nat.le_refl _, fun _ _ _ => rfl⟩ (fun _ e => by cases e)
theorem ki_below {β : Type} {B : Nat} {J : β → World → Prop} (h : AbidesFrom B J) {s : β} {W W' : World} (hs : J s W) (hb : Below W.heap.size W W') : J s W' :=
  h s W _ none hs ⟨hb.os, hb.tape, hb.output, hb.size, fun k hk _ => hb.block k hk⟩ (fun _ e => by cases e)
/-- a time as the iterator gives it -/
def tmV (t : Int) : Array Value := #[.int .i64 t]

theorem row_second (w : World) (o : Obj) (cs : List Value) (t : TypeId) : Row ((w.alloc o).alloc (.cells cs.toArray t)) (w.heap.size + 1) t cs := by
  have := Row.new (w.alloc o) cs t
  rwa [World.size_alloc] at this
theorem kinds_exact (w : World) : Calls Tryz.prog 43 #[] w fun e w' => e = .returned (.agg #[.func (.func 64) #[] #[], .func (.func 65) #[] #[], .func (.func 66) #[] #[], .func (.func 67) #[] #[], .func (.func 68) #[] #[], .func (.func 72) #[] #[], .func (.func 74) #[] #[], .func (.func 76) #[] #[], .func (.func 78) #[] #[], .func (.func 80) #[] #[], .func (.func 82) #[] #[], .func (.func 84) #[] #[]]) ∧ w' = w.alloc (.cells #[.func (.func 64) #[] #[], .func (.func 65) #[] #[], .func (.func 66) #[] #[], .func (.func 67) #[] #[], .func (.func 68) #[] #[], .func (.func 72) #[] #[], .func (.func 74) #[] #[], .func (.func 76) #[] #[], .func (.func 78) #[] #[], .func (.func 80) #[] #[], .func (.func 82) #[] #[], .func (.func 84) #[] #[]] 75) := by
  go_enter Tryz.func43, Tryz.ntmps43
  go_wp2_with fail
  exact bodyPost_ret (v := .agg #[.func (.func 64) #[] #[], .func (.func 65) #[] #[], .func (.func 66) #[] #[], .func (.func 67) #[] #[], .func (.func 68) #[] #[], .func (.func 72) #[] #[], .func (.func 74) #[] #[], .func (.func 76) #[] #[], .func (.func 78) #[] #[], .func (.func 80) #[] #[], .func (.func 82) #[] #[], .func (.func 84) #[] #[]]) (by simp [results, Tryz.results43, go_sem]) rfl ⟨rfl, rfl⟩

section
attribute [local go_sem] Oper.semAt_some
set_option maxRecDepth 100000 in
set_option maxHeartbeats 8000000 in
theorem titer_in (n : Nat) (hn : 3 ≤ n) (l Bp Ba Bb : Nat) (q : Pl.P) (ok : q.Ok) (hx : q.x.Bd) (v : Value) (a b : Int) (a0 : 0 ≤ a) (a1 : a ≤ 253402300800) (b1 : b ≤ 253402300799) (F : List Int) (hF : Pl.Rem q.K b F [] a) (own : Nat → Prop) (n₀ : Nat) (V w : World) (B : Nat) (J Jx : List Int → World → Prop) (hJ : AbidesFrom B J)
    (hw : n₀ = w.heap.size) (hV : Below V.heap.size V w) (hown : ∀ b, own b → V.heap.size ≤ b ∧ b < n₀) (rs : Bo.RowS V v q.l) (L : LayM V) (hBp : Bp < n₀) (hBa : Ba < n₀) (hBb : Bb < n₀) (op : ¬ own Bp) (oa : ¬ own Ba) (ob : ¬ own Bb)
    (rp : Row w Bp 29 (plL q v)) (ca : w.cell? ⟨Ba, 0, none⟩ = some (.int .i64 a)) (cb : w.cell? ⟨Bb, 0, none⟩ = some (.int .i64 b))
    (hY : ∀ pre x W, J pre W → pre.length < F.length → YieldAt Fence.wide (n - 1) Tryz.prog l (tmV x) W fun e W' =>
      (e = .returned (.bool true) ∧ J (pre ++ [x]) W' ∧ Ki own n₀ W W') ∨ (e = .returned (.bool false) ∧ Jx (pre ++ [x]) W'))
    (W : World) (hW : Below w.heap.size w W) (h0 : J [] W) :
    CallsIn Fence.wide n Tryz.prog 59 #[.func (.yield l) #[] #[], .pointer (some ⟨Bp, 0, none⟩), .pointer (some ⟨Ba, 0, none⟩), .pointer (some ⟨Bb, 0, none⟩)] W fun e W' => (∃ v, e = .returned v) ∧
      ((∃ ys, ys = F ∧ J ys W') ∨ (∃ pre, pre <+: F ∧ Jx pre W')) := by
  have h1 : 1 ≤ n := by omega
  obtain ⟨i, hi, hk⟩ := P_kind ok
  have K0 : Hid (Ki own n₀ w W) := Lib.hid (Ki.of_below hW (Nat.le_of_eq hw))
  have HN := Lib.hid (show n₀ ≤ W.heap.size by rw [hw]; exact hW.size)
  have HO := Lib.hid (fun b (q : own b) => hown b q)
  have RP := Lib.hid (K0.out.row op (by decide) rp)
  have CA := (K0.out.cell (p := ⟨Ba, 0, none⟩) hBa oa).trans ca
  have CB := Lib.hid ((K0.out.cell (p := ⟨Bb, 0, none⟩) hBb ob).trans cb)
  have BV := Lib.hid (show Below V.heap.size V W from hV.trans (hW.mono hV.size))
  have VN := Lib.hid (show V.heap.size ≤ n₀ by rw [hw]; exact hV.size)
  have RS := Lib.hid rs
  have LL := Lib.hid L
  have HY := Lib.hid hY
  have OP := Lib.hid op
  have OB := Lib.hid (And.intro hBb ob)
  have HF := Lib.hid hF
  have B1 := Lib.hid b1
  have A0 := Lib.hid (And.intro a0 a1)
  have BA := Lib.hid (show Ba < W.heap.size by have := HN.out; omega)
  have BP := Lib.hid hBp
  have ix := kind_index i hi
  have i0 : (0 : Int) ≤ (i : Int) := by omega
  have i3 : (i : Int) < 3 := by omega
  have PF := Lib.hid (fun t ht r hr W L h => pfirst_any i hi q hk ok hx v t ht r hr W L h)
  have FR := Lib.hid (fun t x p r hr W h => Bo.free_any v q.l t x p r hr W h)
  have OKL := Lib.hid (fun t (ht : Pl.vt t) => skip_free ok ht)
  have OKS := Lib.hid ok.few
  have KE := Lib.hid (fun W => kinds_exact W)
  have rp0 := RP.out
  simp only [plL, hk] at rp0
  have c0 := RP.out.cell 0
  simp only [plL, hk] at c0
  have HK := Lib.hid hk
  clear hk hY op hBb ob hF b1 a0 a1 hown hW hw ca cb hV rs L rp ok hx hBp hBa oa hi
  refine callsIn_of_wp Tryz.func59 rfl trivial ?_ rfl
  simp only [Tryz.ntmps59, List.size_toArray, List.length_cons, List.length_nil, Nat.reduceAdd, Nat.reduceSub, Array.replicate_succ, Array.replicate_zero, List.push_toArray, List.append_toArray, List.nil_append, List.cons_append]
  gi_wp2_with fail
  obtain ⟨Wd, hWd⟩ : ∃ Wd, ({ W with drawn := W.drawn + 1 } : World) = Wd := ⟨_, rfl⟩
  have BD : Hid (Below W.heap.size W Wd) := Lib.hid (by rw [← hWd]; exact Bo.below_drewN (Below.refl _ W) 1)
  have c0d := (BD.out.cell (p := ⟨Bp, 0, none⟩) RP.out.lt).trans c0
  have bz : Bp < Wd.heap.size := Nat.lt_of_lt_of_le RP.out.lt BD.out.size
  have c0a : ∀ o, (Wd.alloc o).cell? ⟨Bp, 0, none⟩ = some (.int .i64 (i : Int)) := fun o => (((Below.refl _ Wd).alloc (Nat.le_refl _) o).cell (p := ⟨Bp, 0, none⟩) bz).trans c0d
  have c0b : ∀ o o', ((Wd.alloc o).alloc o').cell? ⟨Bp, 0, none⟩ = some (.int .i64 (i : Int)) := fun o o' => ((((Below.refl _ Wd).alloc (Nat.le_refl _) o).alloc (by simp) o').cell (p := ⟨Bp, 0, none⟩) bz).trans c0d
  refine wpIn_mono (Q := fun e a2 w2 => e = .normal ∧ ∃ Bz, a2 = { tmps := #[.func (.yield l) #[] #[], .pointer (some ⟨Bp, 0, none⟩), .pointer (some ⟨Ba, 0, none⟩), .pointer (some ⟨Bb, 0, none⟩), undef, .pointer (some ⟨Bz, 0, none⟩), undef, undef, undef, undef, undef, .agg #[.func (.func 64) #[] #[], .func (.func 65) #[] #[], .func (.func 66) #[] #[], .func (.func 67) #[] #[], .func (.func 68) #[] #[], .func (.func 72) #[] #[], .func (.func 74) #[] #[], .func (.func 76) #[] #[], .func (.func 78) #[] #[], .func (.func 80) #[] #[], .func (.func 82) #[] #[], .func (.func 84) #[] #[]], .pointer (some ⟨Bp, 0, none⟩), .int .i64 (i : Int), .agg #[.func (.func (vF i)) #[] #[], .func (.func (hasF i)) #[] #[], .func (.func (nextF i)) #[] #[], .func (.func (cntF i)) #[] #[]], undef, undef, undef, undef, undef, undef, undef, undef, undef, undef, undef, undef, undef, undef, undef, undef, undef, undef, undef, undef, undef, undef, undef, undef, undef, undef, undef, undef, undef, undef, undef, undef, undef, undef, undef, undef, undef, undef, undef, undef, undef], defers := [] } ∧ Row w2 Bz 74 [.func (.func (vF i)) #[] #[], .func (.func (hasF i)) #[] #[], .func (.func (nextF i)) #[] #[], .func (.func (cntF i)) #[] #[]] ∧ Wd.heap.size ≤ Bz ∧ Below Wd.heap.size Wd w2) ?_ ?_
  · refine wpIn_region_any (by kernel_rfl) ?_
    rw [hWd]
    clear c0
    refine anyIn_cons (l := [0, 1, 4]) (by kernel_rfl) (by simp) ?_
    intro k hk
    obtain rfl | rfl | rfl : k = 0 ∨ k = 1 ∨ k = 4 := by simpa using hk
    · clear hk
      refine opIn_at rfl rfl ?_
      gi_wp2_with (refine ⟨trivial, ?_⟩; gi_at_call 43; refine (callsIn_wide.2 (KE.out _)).mono ?_; rintro e V' ⟨rfl, rfl⟩)
      refine anyIn_cons (l := [1, 4]) (by kernel_rfl) (by simp) ?_
      intro k hk
      obtain rfl | rfl : k = 1 ∨ k = 4 := by simpa using hk
      · clear hk
        refine opIn_at rfl rfl ?_
        gi_wp2
        refine anyIn_cons (l := [2, 4]) (by kernel_rfl) (by simp) ?_
        intro k hk
        obtain rfl | rfl : k = 2 ∨ k = 4 := by simpa using hk
        · clear hk
          refine opIn_at rfl rfl ?_
          gi_wp2
          refine anyIn_cons (l := [3, 4]) (by kernel_rfl) (by simp) ?_
          intro k hk
          obtain rfl | rfl : k = 3 ∨ k = 4 := by simpa using hk
          · clear hk
            refine opIn_at rfl rfl ?_
            gi_wp2
            refine anyIn_cons (l := [4]) (by kernel_rfl) (by simp) ?_
            intro k hk
            obtain rfl : k = 4 := by simpa using hk
            clear hk
            refine opIn_at rfl rfl ?_
            gi_wp2
            refine anyIn_cons (l := [5]) (by kernel_rfl) (by simp) ?_
            intro k hk
            obtain rfl : k = 5 := by simpa using hk
            clear hk
            refine opIn_at rfl rfl ?_
            gi_wp2
            exact anyIn_end (by kernel_rfl) ⟨rfl, Wd.heap.size + 1, rfl, row_second Wd _ [.func (.func (vF i)) #[] #[], .func (.func (hasF i)) #[] #[], .func (.func (nextF i)) #[] #[], .func (.func (cntF i)) #[] #[]] _, by omega, ((Below.refl _ _).alloc (Nat.le_refl _) _).alloc (by simp) _⟩
          · clear hk
            refine opIn_at rfl rfl ?_
            gi_wp2
            refine anyIn_cons (l := [3]) (by kernel_rfl) (by simp) ?_
            intro k hk
            obtain rfl : k = 3 := by simpa using hk
            clear hk
            refine opIn_at rfl rfl ?_
            gi_wp2
            refine anyIn_cons (l := [5]) (by kernel_rfl) (by simp) ?_
            intro k hk
            obtain rfl : k = 5 := by simpa using hk
            clear hk
            refine opIn_at rfl rfl ?_
            gi_wp2
            exact anyIn_end (by kernel_rfl) ⟨rfl, Wd.heap.size + 1, rfl, row_second Wd _ [.func (.func (vF i)) #[] #[], .func (.func (hasF i)) #[] #[], .func (.func (nextF i)) #[] #[], .func (.func (cntF i)) #[] #[]] _, by omega, ((Below.refl _ _).alloc (Nat.le_refl _) _).alloc (by simp) _⟩
        · clear hk
          refine opIn_at rfl rfl ?_
          gi_wp2
          refine anyIn_cons (l := [2]) (by kernel_rfl) (by simp) ?_
          intro k hk
          obtain rfl : k = 2 := by simpa using hk
          clear hk
          refine opIn_at rfl rfl ?_
          gi_wp2
          refine anyIn_cons (l := [3]) (by kernel_rfl) (by simp) ?_
          intro k hk
          obtain rfl : k = 3 := by simpa using hk
          clear hk
          refine opIn_at rfl rfl ?_
          gi_wp2
          refine anyIn_cons (l := [5]) (by kernel_rfl) (by simp) ?_
          intro k hk
          obtain rfl : k = 5 := by simpa using hk
          clear hk
          refine opIn_at rfl rfl ?_
          gi_wp2
          exact anyIn_end (by kernel_rfl) ⟨rfl, Wd.heap.size + 1, rfl, row_second Wd _ [.func (.func (vF i)) #[] #[], .func (.func (hasF i)) #[] #[], .func (.func (nextF i)) #[] #[], .func (.func (cntF i)) #[] #[]] _, by omega, ((Below.refl _ _).alloc (Nat.le_refl _) _).alloc (by simp) _⟩
      · clear hk
        refine opIn_at rfl rfl ?_
        gi_wp2
        refine anyIn_cons (l := [1]) (by kernel_rfl) (by simp) ?_
        intro k hk
        obtain rfl : k = 1 := by simpa using hk
        clear hk
        refine opIn_at rfl rfl ?_
        gi_wp2
        refine anyIn_cons (l := [2]) (by kernel_rfl) (by simp) ?_
        intro k hk
        obtain rfl : k = 2 := by simpa using hk
        clear hk
        refine opIn_at rfl rfl ?_
        gi_wp2
        refine anyIn_cons (l := [3]) (by kernel_rfl) (by simp) ?_
        intro k hk
        obtain rfl : k = 3 := by simpa using hk
        clear hk
        refine opIn_at rfl rfl ?_
        gi_wp2
        refine anyIn_cons (l := [5]) (by kernel_rfl) (by simp) ?_
        intro k hk
        obtain rfl : k = 5 := by simpa using hk
        clear hk
        refine opIn_at rfl rfl ?_
        gi_wp2
        exact anyIn_end (by kernel_rfl) ⟨rfl, Wd.heap.size + 1, rfl, row_second Wd _ [.func (.func (vF i)) #[] #[], .func (.func (hasF i)) #[] #[], .func (.func (nextF i)) #[] #[], .func (.func (cntF i)) #[] #[]] _, by omega, ((Below.refl _ _).alloc (Nat.le_refl _) _).alloc (by simp) _⟩
    · clear hk
      refine opIn_at rfl rfl ?_
      gi_wp2
      refine anyIn_cons (l := [0, 2, 4]) (by kernel_rfl) (by simp) ?_
      intro k hk
      obtain rfl | rfl | rfl : k = 0 ∨ k = 2 ∨ k = 4 := by simpa using hk
      · clear hk
        refine opIn_at rfl rfl ?_
        gi_wp2_with (refine ⟨trivial, ?_⟩; gi_at_call 43; refine (callsIn_wide.2 (KE.out _)).mono ?_; rintro e V' ⟨rfl, rfl⟩)
        refine anyIn_cons (l := [2, 4]) (by kernel_rfl) (by simp) ?_
        intro k hk
        obtain rfl | rfl : k = 2 ∨ k = 4 := by simpa using hk
        · clear hk
          refine opIn_at rfl rfl ?_
          gi_wp2
          refine anyIn_cons (l := [3, 4]) (by kernel_rfl) (by simp) ?_
          intro k hk
          obtain rfl | rfl : k = 3 ∨ k = 4 := by simpa using hk
          · clear hk
            refine opIn_at rfl rfl ?_
            gi_wp2
            refine anyIn_cons (l := [4]) (by kernel_rfl) (by simp) ?_
            intro k hk
            obtain rfl : k = 4 := by simpa using hk
            clear hk
            refine opIn_at rfl rfl ?_
            gi_wp2
            refine anyIn_cons (l := [5]) (by kernel_rfl) (by simp) ?_
            intro k hk
            obtain rfl : k = 5 := by simpa using hk
            clear hk
            refine opIn_at rfl rfl ?_
            gi_wp2
            exact anyIn_end (by kernel_rfl) ⟨rfl, Wd.heap.size + 1, rfl, row_second Wd _ [.func (.func (vF i)) #[] #[], .func (.func (hasF i)) #[] #[], .func (.func (nextF i)) #[] #[], .func (.func (cntF i)) #[] #[]] _, by omega, ((Below.refl _ _).alloc (Nat.le_refl _) _).alloc (by simp) _⟩
          · clear hk
            refine opIn_at rfl rfl ?_
            gi_wp2
            refine anyIn_cons (l := [3]) (by kernel_rfl) (by simp) ?_
            intro k hk
            obtain rfl : k = 3 := by simpa using hk
            clear hk
            refine opIn_at rfl rfl ?_
            gi_wp2
            refine anyIn_cons (l := [5]) (by kernel_rfl) (by simp) ?_
            intro k hk
            obtain rfl : k = 5 := by simpa using hk
            clear hk
            refine opIn_at rfl rfl ?_
            gi_wp2
            exact anyIn_end (by kernel_rfl) ⟨rfl, Wd.heap.size + 1, rfl, row_second Wd _ [.func (.func (vF i)) #[] #[], .func (.func (hasF i)) #[] #[], .func (.func (nextF i)) #[] #[], .func (.func (cntF i)) #[] #[]] _, by omega, ((Below.refl _ _).alloc (Nat.le_refl _) _).alloc (by simp) _⟩
        · clear hk
          refine opIn_at rfl rfl ?_
          gi_wp2
          refine anyIn_cons (l := [2]) (by kernel_rfl) (by simp) ?_
          intro k hk
          obtain rfl : k = 2 := by simpa using hk
          clear hk
          refine opIn_at rfl rfl ?_
          gi_wp2
          refine anyIn_cons (l := [3]) (by kernel_rfl) (by simp) ?_
          intro k hk
          obtain rfl : k = 3 := by simpa using hk
          clear hk
          refine opIn_at rfl rfl ?_
          gi_wp2
          refine anyIn_cons (l := [5]) (by kernel_rfl) (by simp) ?_
          intro k hk
          obtain rfl : k = 5 := by simpa using hk
          clear hk
          refine opIn_at rfl rfl ?_
          gi_wp2
          exact anyIn_end (by kernel_rfl) ⟨rfl, Wd.heap.size + 1, rfl, row_second Wd _ [.func (.func (vF i)) #[] #[], .func (.func (hasF i)) #[] #[], .func (.func (nextF i)) #[] #[], .func (.func (cntF i)) #[] #[]] _, by omega, ((Below.refl _ _).alloc (Nat.le_refl _) _).alloc (by simp) _⟩
      · clear hk
        refine opIn_at rfl rfl ?_
        gi_wp2
        refine anyIn_cons (l := [0, 4]) (by kernel_rfl) (by simp) ?_
        intro k hk
        obtain rfl | rfl : k = 0 ∨ k = 4 := by simpa using hk
        · clear hk
          refine opIn_at rfl rfl ?_
          gi_wp2_with (refine ⟨trivial, ?_⟩; gi_at_call 43; refine (callsIn_wide.2 (KE.out _)).mono ?_; rintro e V' ⟨rfl, rfl⟩)
          refine anyIn_cons (l := [3, 4]) (by kernel_rfl) (by simp) ?_
          intro k hk
          obtain rfl | rfl : k = 3 ∨ k = 4 := by simpa using hk
          · clear hk
            refine opIn_at rfl rfl ?_
            gi_wp2
            refine anyIn_cons (l := [4]) (by kernel_rfl) (by simp) ?_
            intro k hk
            obtain rfl : k = 4 := by simpa using hk
            clear hk
            refine opIn_at rfl rfl ?_
            gi_wp2
            refine anyIn_cons (l := [5]) (by kernel_rfl) (by simp) ?_
            intro k hk
            obtain rfl : k = 5 := by simpa using hk
            clear hk
            refine opIn_at rfl rfl ?_
            gi_wp2
            exact anyIn_end (by kernel_rfl) ⟨rfl, Wd.heap.size + 1, rfl, row_second Wd _ [.func (.func (vF i)) #[] #[], .func (.func (hasF i)) #[] #[], .func (.func (nextF i)) #[] #[], .func (.func (cntF i)) #[] #[]] _, by omega, ((Below.refl _ _).alloc (Nat.le_refl _) _).alloc (by simp) _⟩
          · clear hk
            refine opIn_at rfl rfl ?_
            gi_wp2
            refine anyIn_cons (l := [3]) (by kernel_rfl) (by simp) ?_
            intro k hk
            obtain rfl : k = 3 := by simpa using hk
            clear hk
            refine opIn_at rfl rfl ?_
            gi_wp2
            refine anyIn_cons (l := [5]) (by kernel_rfl) (by simp) ?_
            intro k hk
            obtain rfl : k = 5 := by simpa using hk
            clear hk
            refine opIn_at rfl rfl ?_
            gi_wp2
            exact anyIn_end (by kernel_rfl) ⟨rfl, Wd.heap.size + 1, rfl, row_second Wd _ [.func (.func (vF i)) #[] #[], .func (.func (hasF i)) #[] #[], .func (.func (nextF i)) #[] #[], .func (.func (cntF i)) #[] #[]] _, by omega, ((Below.refl _ _).alloc (Nat.le_refl _) _).alloc (by simp) _⟩
        · clear hk
          refine opIn_at rfl rfl ?_
          gi_wp2
          refine anyIn_cons (l := [0]) (by kernel_rfl) (by simp) ?_
          intro k hk
          obtain rfl : k = 0 := by simpa using hk
          clear hk
          refine opIn_at rfl rfl ?_
          gi_wp2_with (refine ⟨trivial, ?_⟩; gi_at_call 43; refine (callsIn_wide.2 (KE.out _)).mono ?_; rintro e V' ⟨rfl, rfl⟩)
          refine anyIn_cons (l := [3]) (by kernel_rfl) (by simp) ?_
          intro k hk
          obtain rfl : k = 3 := by simpa using hk
          clear hk
          refine opIn_at rfl rfl ?_
          gi_wp2
          refine anyIn_cons (l := [5]) (by kernel_rfl) (by simp) ?_
          intro k hk
          obtain rfl : k = 5 := by simpa using hk
          clear hk
          refine opIn_at rfl rfl ?_
          gi_wp2
          exact anyIn_end (by kernel_rfl) ⟨rfl, Wd.heap.size, rfl, (Row.new Wd [.func (.func (vF i)) #[] #[], .func (.func (hasF i)) #[] #[], .func (.func (nextF i)) #[] #[], .func (.func (cntF i)) #[] #[]] 74).alloc _, Nat.le_refl _, ((Below.refl _ _).alloc (Nat.le_refl _) _).alloc (by simp) _⟩
      · clear hk
        refine opIn_at rfl rfl ?_
        gi_wp2
        refine anyIn_cons (l := [0, 2]) (by kernel_rfl) (by simp) ?_
        intro k hk
        obtain rfl | rfl : k = 0 ∨ k = 2 := by simpa using hk
        · clear hk
          refine opIn_at rfl rfl ?_
          gi_wp2_with (refine ⟨trivial, ?_⟩; gi_at_call 43; refine (callsIn_wide.2 (KE.out _)).mono ?_; rintro e V' ⟨rfl, rfl⟩)
          refine anyIn_cons (l := [2]) (by kernel_rfl) (by simp) ?_
          intro k hk
          obtain rfl : k = 2 := by simpa using hk
          clear hk
          refine opIn_at rfl rfl ?_
          gi_wp2
          refine anyIn_cons (l := [3]) (by kernel_rfl) (by simp) ?_
          intro k hk
          obtain rfl : k = 3 := by simpa using hk
          clear hk
          refine opIn_at rfl rfl ?_
          gi_wp2
          refine anyIn_cons (l := [5]) (by kernel_rfl) (by simp) ?_
          intro k hk
          obtain rfl : k = 5 := by simpa using hk
          clear hk
          refine opIn_at rfl rfl ?_
          gi_wp2
          exact anyIn_end (by kernel_rfl) ⟨rfl, Wd.heap.size, rfl, (Row.new Wd [.func (.func (vF i)) #[] #[], .func (.func (hasF i)) #[] #[], .func (.func (nextF i)) #[] #[], .func (.func (cntF i)) #[] #[]] 74).alloc _, Nat.le_refl _, ((Below.refl _ _).alloc (Nat.le_refl _) _).alloc (by simp) _⟩
        · clear hk
          refine opIn_at rfl rfl ?_
          gi_wp2
          refine anyIn_cons (l := [0]) (by kernel_rfl) (by simp) ?_
          intro k hk
          obtain rfl : k = 0 := by simpa using hk
          clear hk
          refine opIn_at rfl rfl ?_
          gi_wp2_with (refine ⟨trivial, ?_⟩; gi_at_call 43; refine (callsIn_wide.2 (KE.out _)).mono ?_; rintro e V' ⟨rfl, rfl⟩)
          refine anyIn_cons (l := [3]) (by kernel_rfl) (by simp) ?_
          intro k hk
          obtain rfl : k = 3 := by simpa using hk
          clear hk
          refine opIn_at rfl rfl ?_
          gi_wp2
          refine anyIn_cons (l := [5]) (by kernel_rfl) (by simp) ?_
          intro k hk
          obtain rfl : k = 5 := by simpa using hk
          clear hk
          refine opIn_at rfl rfl ?_
          gi_wp2
          exact anyIn_end (by kernel_rfl) ⟨rfl, Wd.heap.size, rfl, (Row.new Wd [.func (.func (vF i)) #[] #[], .func (.func (hasF i)) #[] #[], .func (.func (nextF i)) #[] #[], .func (.func (cntF i)) #[] #[]] 74).alloc _, Nat.le_refl _, ((Below.refl _ _).alloc (Nat.le_refl _) _).alloc (by simp) _⟩
    · clear hk
      refine opIn_at rfl rfl ?_
      gi_wp2
      refine anyIn_cons (l := [0, 1]) (by kernel_rfl) (by simp) ?_
      intro k hk
      obtain rfl | rfl : k = 0 ∨ k = 1 := by simpa using hk
      · clear hk
        refine opIn_at rfl rfl ?_
        gi_wp2_with (refine ⟨trivial, ?_⟩; gi_at_call 43; refine (callsIn_wide.2 (KE.out _)).mono ?_; rintro e V' ⟨rfl, rfl⟩)
        refine anyIn_cons (l := [1]) (by kernel_rfl) (by simp) ?_
        intro k hk
        obtain rfl : k = 1 := by simpa using hk
        clear hk
        refine opIn_at rfl rfl ?_
        gi_wp2
        refine anyIn_cons (l := [2]) (by kernel_rfl) (by simp) ?_
        intro k hk
        obtain rfl : k = 2 := by simpa using hk
        clear hk
        refine opIn_at rfl rfl ?_
        gi_wp2
        refine anyIn_cons (l := [3]) (by kernel_rfl) (by simp) ?_
        intro k hk
        obtain rfl : k = 3 := by simpa using hk
        clear hk
        refine opIn_at rfl rfl ?_
        gi_wp2
        refine anyIn_cons (l := [5]) (by kernel_rfl) (by simp) ?_
        intro k hk
        obtain rfl : k = 5 := by simpa using hk
        clear hk
        refine opIn_at rfl rfl ?_
        gi_wp2
        exact anyIn_end (by kernel_rfl) ⟨rfl, Wd.heap.size, rfl, (Row.new Wd [.func (.func (vF i)) #[] #[], .func (.func (hasF i)) #[] #[], .func (.func (nextF i)) #[] #[], .func (.func (cntF i)) #[] #[]] 74).alloc _, Nat.le_refl _, ((Below.refl _ _).alloc (Nat.le_refl _) _).alloc (by simp) _⟩
      · clear hk
        refine opIn_at rfl rfl ?_
        gi_wp2
        refine anyIn_cons (l := [0, 2]) (by kernel_rfl) (by simp) ?_
        intro k hk
        obtain rfl | rfl : k = 0 ∨ k = 2 := by simpa using hk
        · clear hk
          refine opIn_at rfl rfl ?_
          gi_wp2_with (refine ⟨trivial, ?_⟩; gi_at_call 43; refine (callsIn_wide.2 (KE.out _)).mono ?_; rintro e V' ⟨rfl, rfl⟩)
          refine anyIn_cons (l := [2]) (by kernel_rfl) (by simp) ?_
          intro k hk
          obtain rfl : k = 2 := by simpa using hk
          clear hk
          refine opIn_at rfl rfl ?_
          gi_wp2
          refine anyIn_cons (l := [3]) (by kernel_rfl) (by simp) ?_
          intro k hk
          obtain rfl : k = 3 := by simpa using hk
          clear hk
          refine opIn_at rfl rfl ?_
          gi_wp2
          refine anyIn_cons (l := [5]) (by kernel_rfl) (by simp) ?_
          intro k hk
          obtain rfl : k = 5 := by simpa using hk
          clear hk
          refine opIn_at rfl rfl ?_
          gi_wp2
          exact anyIn_end (by kernel_rfl) ⟨rfl, Wd.heap.size, rfl, (Row.new Wd [.func (.func (vF i)) #[] #[], .func (.func (hasF i)) #[] #[], .func (.func (nextF i)) #[] #[], .func (.func (cntF i)) #[] #[]] 74).alloc _, Nat.le_refl _, ((Below.refl _ _).alloc (Nat.le_refl _) _).alloc (by simp) _⟩
        · clear hk
          refine opIn_at rfl rfl ?_
          gi_wp2
          refine anyIn_cons (l := [0]) (by kernel_rfl) (by simp) ?_
          intro k hk
          obtain rfl : k = 0 := by simpa using hk
          clear hk
          refine opIn_at rfl rfl ?_
          gi_wp2_with (refine ⟨trivial, ?_⟩; gi_at_call 43; refine (callsIn_wide.2 (KE.out _)).mono ?_; rintro e V' ⟨rfl, rfl⟩)
          refine anyIn_cons (l := [3]) (by kernel_rfl) (by simp) ?_
          intro k hk
          obtain rfl : k = 3 := by simpa using hk
          clear hk
          refine opIn_at rfl rfl ?_
          gi_wp2
          refine anyIn_cons (l := [5]) (by kernel_rfl) (by simp) ?_
          intro k hk
          obtain rfl : k = 5 := by simpa using hk
          clear hk
          refine opIn_at rfl rfl ?_
          gi_wp2
          exact anyIn_end (by kernel_rfl) ⟨rfl, Wd.heap.size, rfl, (Row.new Wd [.func (.func (vF i)) #[] #[], .func (.func (hasF i)) #[] #[], .func (.func (nextF i)) #[] #[], .func (.func (cntF i)) #[] #[]] 74).alloc _, Nat.le_refl _, ((Below.refl _ _).alloc (Nat.le_refl _) _).alloc (by simp) _⟩
  rintro e a2 w2 ⟨rfl, Bz, rfl, rk, hbk, hb2⟩
  have HB2 := Lib.hid (BD.out.trans (hb2.mono BD.out.size))
  have J2 := ki_below hJ h0 HB2.out
  have ca2 := (HB2.out.cell (p := ⟨Ba, 0, none⟩) BA.out).trans CA
  have RP2 := Lib.hid (RP.out.below HB2.out)
  have CB2 := Lib.hid ((HB2.out.cell (p := ⟨Bb, 0, none⟩) (by have := OB.out.1; have := HN.out; show Bb < _; omega)).trans CB.out)
  have BV2 := Lib.hid (show Below V.heap.size V w2 from BV.out.trans (HB2.out.mono BV.out.size))
  have HN2 := Lib.hid (show n₀ ≤ w2.heap.size by have := HN.out; have := HB2.out.size; omega)
  have BKn := Lib.hid (show ¬ own Bz from fun k => by have := HO.out _ k; have := HN.out; have := BD.out.size; omega)
  have RK := Lib.hid rk
  clear rk hb2 hbk c0d c0a c0b bz BD hWd h0 CA c0 rp0 ix i0 i3 BA
  gi_wp2
  gi_loopw [6] (fun fv wr => ∃ (fr : Int) (pre : List Int), fv = .int .i64 fr ∧ Hid (0 ≤ fr ∧ fr ≤ 253402300800) ∧ Hid (Pl.Rem q.K b F pre fr) ∧ J pre wr ∧ Hid (Ki own n₀ w2 wr)) (fun fv _ => (253402300801 - intOf fv).toNat)
  case atStart => exact ⟨a, [], rfl, A0, HF, J2, Lib.hid (Ki.refl _ _ _)⟩
  case round =>
    obtain ⟨fr, pre, rfl, hfb, hrm, hJs, hk⟩ := hrel
    have cb3 := (hk.out.cell (p := ⟨Bb, 0, none⟩) OB.out.1 OB.out.2).trans CB2.out
    by_cases le : fr ≤ b
    · have e0 : decide (fr ≤ b) = true := decide_eq_true le
      have RK3 := hk.out.row BKn.out (by decide) RK.out
      have RP3 := Lib.hid (hk.out.row OP.out (by decide) RP2.out)
      have k0 := RK3.cell 0; have k1 := RK3.cell 1; have k2 := RK3.cell 2; have k3 := RK3.cell 3
      obtain ⟨c0, c1, c2, c3, c4, c5, c6, c7, c8, c9, c10, c11, c12, c13⟩ := plRow RP3.out
      have OLD := hk.out.base BV2.out (fun b k => (HO.out b k).1) VN.out
      have L3 := LL.out.old (by have := BV2.out.size; have := hk.out.size; omega) OLD
      have S3 := Lib.hid (rowS_old RS.out OLD)
      have fvt : Pl.vt fr := ⟨hfb.out.1, by have := B1.out; omega⟩
      obtain ⟨r, hr⟩ := Mat.least_ex q.T fr 253402300799
      have PFc := Lib.hid (PF.out fr fvt r hr wr L3 S3.out)
      have HR := Lib.hid hr
      simp at k0 k1 k2 k3
      clear hr L3 OLD RK3 fvt le
      cases r with
      | none =>
        have FE := Lib.hid (Pl.rem_done hrm.out (Pl.no_none HR.out B1.out))
        gi_wp2_with fail
        refine ⟨trivial, ?_⟩
        refine (callsIn_wide.2 PFc.out).mono ?_
        rintro e W3 ⟨rfl, hb3⟩
        have J3 := ki_below hJ hJs hb3
        clear hb3
        gi_wp2
        refine bodyPost_ret (results_none rfl _ _ _) rfl ?_
        exact ⟨⟨_, rfl⟩, .inl ⟨pre, FE.out.symm, J3⟩⟩
      | some t =>
        have hr2 := HR.out
        obtain ⟨ht1, ht2, _, _⟩ := id hr2
        have fb0 := hfb.out
        have tvt := Lib.hid (show Pl.vt t from ⟨by omega, ht2⟩)
        by_cases tb : t ≤ b
        · have e1 : decide (b < t) = false := by rw [decide_eq_false_iff_not]; omega
          obtain ⟨x, p, g, hfree⟩ := Bk.freeR_ex q.l t
          obtain rfl : g = 0 := hfree.1.trans (OKL.out t tvt.out)
          have isf : Bk.IsFree q.l t x p := by rcases hfree.2 with ⟨_, k⟩ | ⟨k, _⟩; exact k; exact absurd rfl k
          have FRc := Lib.hid (fun W h => FR.out t x p 0 hfree W h)
          have wt : IntKind.i64.wrap (t + 1) = t + 1 := by rw [IntKind.wrap_i64]; omega
          cases p with
          | false =>
            have FE := Lib.hid (Pl.rem_done hrm.out (Pl.no_free HR.out B1.out (by rcases isf with ⟨k, _⟩ | ⟨_, _, k⟩; cases k; exact k)))
            clear isf hfree hr2 ht1 ht2 tb fb0
            gi_wp2_with fail
            refine ⟨trivial, ?_⟩
            refine (callsIn_wide.2 PFc.out).mono ?_
            rintro e W3 ⟨rfl, hb3⟩
            have J3 := ki_below hJ hJs hb3
            have cb4 := (hb3.cell (p := ⟨Bb, 0, none⟩) (Bo.lt_of_cell cb3)).trans cb3
            obtain ⟨d0, d1, d2, d3, d4, d5, d6, d7, d8, d9, d10, d11, d12, d13⟩ := plRow (RP3.out.below hb3)
            have S4 := Lib.hid (S3.out.below hb3)
            have HB3 := Lib.hid hb3
            clear hb3
            gi_wp2_with fail
            refine ⟨trivial, ?_⟩
            refine (callsIn_wide.2 (FRc.out _ S4.out)).mono ?_
            rintro e W4 ⟨rfl, hb4⟩
            have J4 := ki_below hJ J3 hb4
            clear hb4
            gi_wp2
            refine bodyPost_ret (results_none rfl _ _ _) rfl ?_
            exact ⟨⟨_, rfl⟩, .inl ⟨pre, FE.out.symm, J4⟩⟩
          | true =>
            obtain ⟨x1, x2, x3, x4⟩ : t ≤ x ∧ x ≤ 253402300799 ∧ ¬ Bk.has q.l x ∧ ∀ u, t ≤ u → u < x → Bk.has q.l u := by rcases isf with ⟨_, k⟩ | ⟨k, _⟩; exact k; cases k
            have NU := Lib.hid (Pl.no_until HR.out x4)
            by_cases xt : x = t
            · subst xt
              have t1 : (x == x) = true := by simp
              have mx : max x (x + 1) = x + 1 := by omega
              have HIT := Lib.hid (Pl.rem_hit hrm.out (Pl.hit_at HR.out tb x3))
              have FB2 := Lib.hid (show 0 ≤ x + 1 ∧ x + 1 ≤ 253402300800 by omega)
              have FX := Lib.hid (show fr ≤ x from ht1)
              clear isf hfree hr2 ht1 ht2 tb x1 x2 x3 x4 fb0
              gi_wp2_with fail
              refine ⟨trivial, ?_⟩
              refine (callsIn_wide.2 PFc.out).mono ?_
              rintro e W3 ⟨rfl, hb3⟩
              have J3 := ki_below hJ hJs hb3
              have cb4 := (hb3.cell (p := ⟨Bb, 0, none⟩) (Bo.lt_of_cell cb3)).trans cb3
              obtain ⟨d0, d1, d2, d3, d4, d5, d6, d7, d8, d9, d10, d11, d12, d13⟩ := plRow (RP3.out.below hb3)
              have S4 := Lib.hid (S3.out.below hb3)
              have K3 := Lib.hid (hk.out.below hb3 HN2.out)
              clear hb3
              gi_wp2_with fail
              refine ⟨trivial, ?_⟩
              refine (callsIn_wide.2 (FRc.out _ S4.out)).mono ?_
              rintro e W4 ⟨rfl, hb4⟩
              have J4 := ki_below hJ J3 hb4
              have K4 := Lib.hid (K3.out.below hb4 HN2.out)
              clear hb4
              obtain ⟨fn, tmps, assign, body, hy, hR⟩ := HY.out pre x _ J4 HIT.out.2.1
              simp only [tmV] at hy
              gi_wp2
              refine hR.mono ?_
              rintro e W5 (⟨rfl, hJ5, hk5⟩ | ⟨rfl, hJx5⟩)
              · have K5 := Lib.hid (K4.out.trans hk5)
                clear hk5 hR hy
                gi_wp2
                go_roundw
                case rel => exact ⟨x + 1, pre ++ [x], by first | rfl | go_num, FB2, Lib.hid HIT.out.1, hJ5, K5⟩
                case measure => simp [intOf] <;> (have := FX.out; have := FB2.out; omega)
              · clear hR hy
                gi_wp2
                refine bodyPost_ret (results_none rfl _ _ _) rfl ?_
                exact ⟨⟨_, rfl⟩, .inr ⟨pre ++ [x], HIT.out.2.2, hJx5⟩⟩
            · have t1 : (x == t) = false := by simpa using xt
              have mx : max x (t + 1) = x := by omega
              have SK := Lib.hid (Pl.rem_skip hrm.out (by omega) NU.out)
              have FB2 := Lib.hid (show 0 ≤ x ∧ x ≤ 253402300800 by omega)
              have FX := Lib.hid (show fr < x by omega)
              clear isf hfree hr2 ht1 ht2 tb x1 x2 x3 x4 fb0 xt
              gi_wp2_with fail
              refine ⟨trivial, ?_⟩
              refine (callsIn_wide.2 PFc.out).mono ?_
              rintro e W3 ⟨rfl, hb3⟩
              have J3 := ki_below hJ hJs hb3
              have cb4 := (hb3.cell (p := ⟨Bb, 0, none⟩) (Bo.lt_of_cell cb3)).trans cb3
              obtain ⟨d0, d1, d2, d3, d4, d5, d6, d7, d8, d9, d10, d11, d12, d13⟩ := plRow (RP3.out.below hb3)
              have S4 := Lib.hid (S3.out.below hb3)
              have K3 := Lib.hid (hk.out.below hb3 HN2.out)
              clear hb3
              gi_wp2_with fail
              refine ⟨trivial, ?_⟩
              refine (callsIn_wide.2 (FRc.out _ S4.out)).mono ?_
              rintro e W4 ⟨rfl, hb4⟩
              have J4 := ki_below hJ J3 hb4
              have K4 := Lib.hid (K3.out.below hb4 HN2.out)
              clear hb4
              gi_wp2_with fail
              refine ⟨fun _ h => (by cases h), ?_⟩
              gi_wp2
              go_roundw
              case rel => exact ⟨x, pre, by first | rfl | go_num, FB2, SK, J4, K4⟩
              case measure => simp [intOf] <;> (have := FX.out; have := FB2.out; omega)
        · have e1 : decide (b < t) = true := by rw [decide_eq_true_iff]; omega
          have FE := Lib.hid (Pl.rem_done hrm.out (Pl.no_far HR.out (by omega)))
          clear hr2 ht1 ht2 tb fb0
          gi_wp2_with fail
          refine ⟨trivial, ?_⟩
          refine (callsIn_wide.2 PFc.out).mono ?_
          rintro e W3 ⟨rfl, hb3⟩
          have J3 := ki_below hJ hJs hb3
          have cb4 := (hb3.cell (p := ⟨Bb, 0, none⟩) (Bo.lt_of_cell cb3)).trans cb3
          clear hb3
          gi_wp2
          refine bodyPost_ret (results_none rfl _ _ _) rfl ?_
          exact ⟨⟨_, rfl⟩, .inl ⟨pre, FE.out.symm, J3⟩⟩
    · have e0 : decide (fr ≤ b) = false := decide_eq_false le
      have FE := Lib.hid (Pl.rem_done hrm.out (fun y y1 y2 => by omega))
      clear le
      gi_wp2
      go_end0
      exact ⟨⟨_, rfl⟩, .inl ⟨pre, FE.out.symm, hJs⟩⟩
end
end Go.Proofs.YtljackjcgfaanaaGreatDoor
