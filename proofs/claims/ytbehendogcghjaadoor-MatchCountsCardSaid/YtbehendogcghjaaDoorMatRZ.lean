/- Contracts of the document's program of chapter match: on (the next day, the day before). Contracts of the document's program of chapter match: on backwards (the day before). -/
import Derived.Test.YtbehendogcghjaaDoorMatRX
import Derived.Deep.CutRange
/- Contracts of the document's program of chapter match: on (the next day, the day before). -/
namespace Go.Proofs.YtbehendogcghjaaDoor
open Go.ChangeShapes Go.RowKit Go.Shelf

/-- a day as the document's program holds it: its number; in range its date and its day of the week are right -/
def DV (n : Int) (v : Value) : Prop := ∃ y m d k : Int, v = .agg #[.int .i64 n, .int .i64 y, .int .i64 m, .int .i64 d, .int .i64 k] ∧ (0 ≤ n → n ≤ 2932896 → Civ.Vld y m d ∧ Civ.num y m d = n ∧ k = (n + 4) % 7)
theorem next_day {y m d : Int} (v : Civ.Vld y m d) (h : d + 1 ≤ Civ.dim y m) : Civ.Vld y m (d + 1) ∧ Civ.num y m (d + 1) = Civ.num y m d + 1 := by
  obtain ⟨v1, v2, v3, v4, v5, v6⟩ := v
  exact ⟨⟨v1, v2, v3, v4, by omega, h⟩, by unfold Civ.num; omega⟩
theorem next_month {y m d : Int} (v : Civ.Vld y m d) (h : d = Civ.dim y m) (hm : m < 12) : Civ.Vld y (m + 1) 1 ∧ Civ.num y (m + 1) 1 = Civ.num y m d + 1 := by
  obtain ⟨v1, v2, v3, v4, v5, v6⟩ := v
  have b := Civ.dim_bd y (m + 1)
  exact ⟨⟨v1, v2, by omega, by omega, by omega, by omega⟩, by unfold Civ.num; rw [Civ.cum_succ y m v3 v4]; omega⟩
theorem next_year {y d : Int} (v : Civ.Vld y 12 d) (h : d = Civ.dim y 12) (hy : y < 9999) : Civ.Vld (y + 1) 1 1 ∧ Civ.num (y + 1) 1 1 = Civ.num y 12 d + 1 := by
  obtain ⟨v1, v2, v3, v4, v5, v6⟩ := v
  have b := Civ.dim_bd (y + 1) 1
  have c := Civ.cum_succ y 12 (by omega) (by omega)
  have e := Civ.cum_end y
  have s := Civ.dby_succ y
  have o := Civ.cum_one (y + 1)
  refine ⟨⟨by omega, by omega, by omega, by omega, by omega, by omega⟩, ?_⟩
  unfold Civ.num
  rw [o, s, h]
  have c' : Civ.cum y 13 = Civ.cum y 12 + Civ.dim y 12 := c
  omega
set_option maxRecDepth 100000 in
set_option maxHeartbeats 4000000 in
theorem ron_up (n y m d k : Int) (v : Civ.Vld y m d) (hn : Civ.num y m d = n) (hk : k = (n + 4) % 7) (w : World) :
    Calls Tryd.prog 44 #[.agg #[.int .i64 n, .int .i64 y, .int .i64 m, .int .i64 d, .int .i64 k], .bool false] w fun e w' => ∃ r, e = .returned r ∧ DV (n + 1) r ∧ Below w.heap.size w w' := by
  have rg := Civ.num_range v
  rw [hn] at rg
  obtain ⟨v1, v2, v3, v4, v5, v6⟩ := id v
  have bd := Civ.dim_bd y m
  have LE := Lib.hid (fun w0 : World => Cv.lengthR_yes y m w0 v1 v2 v3 v4)
  obtain ⟨D, hD⟩ : ∃ D, Civ.dim y m = D := ⟨_, rfl⟩
  rw [hD] at LE v6 bd
  have w1 : IntKind.i64.wrap (n + 1) = n + 1 := by rw [IntKind.wrap_i64]; omega
  have w2 : IntKind.i64.wrap (k + 1) = k + 1 := by rw [IntKind.wrap_i64]; omega
  obtain ⟨k', hk'⟩ : ∃ k', (k + 1).tmod 7 = k' := ⟨_, rfl⟩
  have ek : k' = (n + 1 + 4) % 7 := by rw [← hk', Int.tmod_eq_emod_of_nonneg (by omega)]; omega
  have w3 : IntKind.i64.wrap k' = k' := by rw [IntKind.wrap_i64]; omega
  have w4 : IntKind.i64.wrap (d + 1) = d + 1 := by rw [IntKind.wrap_i64]; omega
  have wm5 : IntKind.i64.wrap (m + 1) = m + 1 := by rw [IntKind.wrap_i64]; omega
  have w6 : IntKind.i64.wrap (y + 1) = y + 1 := by rw [IntKind.wrap_i64]; omega
  have Z := Lib.hid (((Below.refl _ w).alloc (Nat.le_refl _) (.cells #[.int .i64 (n + 1), .int .i64 y, .int .i64 m, .int .i64 (d + 1), .int .i64 k'] 52)).alloc (by simp) (.cells #[.int .i64 0, .int .i64 0, .int .i64 0, .int .i64 0, .int .i64 0] 52))
  have P := Lib.hid (And.intro v (And.intro hn (And.intro hD (And.intro ek (And.intro v5 v6)))))
  clear v1 v2 v3 v4 hk hn v ek rg hD
  go_enter Tryd.func44, Tryd.ntmps44
  go_wp2_with fail
  refine (LE.out _).mono ?_
  rintro e' w5 ⟨rfl, hb⟩
  obtain ⟨B, hB⟩ : ∃ B, w.heap.size = B := ⟨_, rfl⟩
  have RC := (Row.new (w.alloc (.cells #[.int .i64 (n + 1), .int .i64 y, .int .i64 m, .int .i64 (d + 1), .int .i64 k'] 52)) [.int .i64 0, .int .i64 0, .int .i64 0, .int .i64 0, .int .i64 0] 52).below hb
  have RD := ((Row.new w [.int .i64 (n + 1), .int .i64 y, .int .i64 m, .int .i64 (d + 1), .int .i64 k'] 52).alloc (.cells #[.int .i64 0, .int .i64 0, .int .i64 0, .int .i64 0, .int .i64 0] 52)).below hb
  rw [show (w.alloc (.cells #[.int .i64 (n + 1), .int .i64 y, .int .i64 m, .int .i64 (d + 1), .int .i64 k'] 52)).heap.size = B + 1 by simp [hB]] at RC
  rw [hB] at RD
  have c0 := RC.cell 0; have c1 := RC.cell 1; have c2 := RC.cell 2; have c3 := RC.cell 3; have c4 := RC.cell 4
  have d0 := RD.cell 0; have d1 := RD.cell 1; have d2 := RD.cell 2; have d3 := RD.cell 3; have d4 := RD.cell 4
  simp only [List.getElem?_cons_zero, List.getElem?_cons_succ] at c0 c1 c2 c3 c4 d0 d1 d2 d3 d4
  have fc := fun k => RC.free k
  have fd := fun k => RD.free k
  have RCH := Lib.hid RC
  have RDH := Lib.hid RD
  have HB := Lib.hid (show Below w.heap.size w w5 from Z.out.trans (hb.mono Z.out.size))
  have hBB : Hid (w.heap.size ≤ B) := Lib.hid (by omega)
  clear hb RC RD
  by_cases q1 : D < d + 1
  · have t1 : decide (D < d + 1) = true := decide_eq_true q1
    obtain rfl : d = D := by omega
    by_cases q2 : m = 12
    · subst q2
      clear q1
      go_upto_region 20 with fail
      have RD1 := (RDH.out.set 3 (.int .i64 1)).set 2 (.int .i64 13)
      have RC1 := (RCH.out.other ⟨B, 3, none⟩ (.int .i64 1) (by simp)).other ⟨B, 2, none⟩ (.int .i64 13) (by simp)
      have HB1 := Lib.hid ((HB.out.setCell (p := ⟨B, 3, none⟩) hBB.out (.int .i64 1)).setCell (p := ⟨B, 2, none⟩) hBB.out (.int .i64 13))
      clear c0 c1 c2 c3 c4 d0 d1 d2 d3 d4 fc fd
      generalize (w5.setCell ⟨B, 3, none⟩ (.int .i64 1)).setCell ⟨B, 2, none⟩ (.int .i64 13) = W2 at RD1 RC1 HB1 ⊢
      have c0 := RC1.cell 0; have c1 := RC1.cell 1; have c2 := RC1.cell 2; have c3 := RC1.cell 3; have c4 := RC1.cell 4
      have d0 := RD1.cell 0; have d1 := RD1.cell 1; have d2 := RD1.cell 2; have d3 := RD1.cell 3; have d4 := RD1.cell 4
      simp only [List.set_cons_zero, List.set_cons_succ, List.getElem?_cons_zero, List.getElem?_cons_succ] at c0 c1 c2 c3 c4 d0 d1 d2 d3 d4
      have fc := fun k => RC1.free k
      have fd := fun k => RD1.free k
      clear RC1 RD1
      go_wp2_with fail
      refine bodyPost_ret (v := .agg #[.int .i64 (n + 1), .int .i64 (y + 1), .int .i64 1, .int .i64 1, .int .i64 k']) (by simp [results, Tryd.results44, go_sem, c0, c1, c2, c3, c4]) rfl ⟨_, rfl, ⟨_, _, _, _, rfl, fun _ n1 => ?_⟩, ?_⟩
      · obtain ⟨v, hn, hD, ek, _, _⟩ := P.out
        have r := Civ.num_range v
        have hy : y < 9999 := by
          refine Classical.byContradiction fun no => ?_
          have e : y = 9999 := by have := v.2.1; omega
          subst e
          have e1 : Civ.num 9999 12 d = 2932866 + d - 1 := by unfold Civ.num Civ.dby Civ.lps Civ.cum; simp [show Civ.lp 9999 = 0 by decide]
          have e2 : Civ.dim 9999 12 = 31 := by decide
          omega
        have q := next_year v hD.symm hy
        exact ⟨q.1, by omega, ek⟩
      · have b := HB1.out
        have h1 : w.heap.size ≤ B + 1 := by have := hBB.out; omega
        exact ((((((b.setCell (p := ⟨B, 2, none⟩) hBB.out _).setCell (p := ⟨B, 1, none⟩) hBB.out _).setCell (p := ⟨B + 1, 0, none⟩) h1 _).setCell (p := ⟨B + 1, 1, none⟩) h1 _).setCell (p := ⟨B + 1, 2, none⟩) h1 _).setCell (p := ⟨B + 1, 3, none⟩) h1 _).setCell (p := ⟨B + 1, 4, none⟩) h1 _
    · have t2 : (m + 1 == 13) = false := by rw [beq_eq_false_iff_ne]; omega
      go_wp2_with fail
      refine bodyPost_ret (v := .agg #[.int .i64 (n + 1), .int .i64 y, .int .i64 (m + 1), .int .i64 1, .int .i64 k']) (by simp [results, Tryd.results44, go_sem, c0, c1, c2, c3, c4]) rfl ⟨_, rfl, ⟨_, _, _, _, rfl, fun _ n1 => ?_⟩, ?_⟩
      · obtain ⟨v, hn, hD, ek, _, _⟩ := P.out
        have q := next_month v hD.symm (by have := v.2.2.2.1; omega)
        exact ⟨q.1, by omega, ek⟩
      · have b := HB.out
        have h1 : w.heap.size ≤ B + 1 := by have := hBB.out; omega
        exact ((((((b.setCell (p := ⟨B, 3, none⟩) hBB.out _).setCell (p := ⟨B, 2, none⟩) hBB.out _).setCell (p := ⟨B + 1, 0, none⟩) h1 _).setCell (p := ⟨B + 1, 1, none⟩) h1 _).setCell (p := ⟨B + 1, 2, none⟩) h1 _).setCell (p := ⟨B + 1, 3, none⟩) h1 _).setCell (p := ⟨B + 1, 4, none⟩) h1 _
  · have t1 : decide (D < d + 1) = false := decide_eq_false q1
    go_wp2_with fail
    refine bodyPost_ret (v := .agg #[.int .i64 (n + 1), .int .i64 y, .int .i64 m, .int .i64 (d + 1), .int .i64 k']) (by simp [results, Tryd.results44, go_sem, c0, c1, c2, c3, c4]) rfl ⟨_, rfl, ⟨_, _, _, _, rfl, fun _ n1 => ?_⟩, ?_⟩
    · obtain ⟨v, hn, hD, ek, _, _⟩ := P.out
      have q := next_day v (by omega)
      exact ⟨q.1, by omega, ek⟩
    · have b := HB.out
      have h1 : w.heap.size ≤ B + 1 := by have := hBB.out; omega
      exact ((((b.setCell (p := ⟨B + 1, 0, none⟩) h1 _).setCell (p := ⟨B + 1, 1, none⟩) h1 _).setCell (p := ⟨B + 1, 2, none⟩) h1 _).setCell (p := ⟨B + 1, 3, none⟩) h1 _).setCell (p := ⟨B + 1, 4, none⟩) h1 _
end Go.Proofs.YtbehendogcghjaaDoor
/- Contracts of the document's program of chapter match: on backwards (the day before). -/
namespace Go.Proofs.YtbehendogcghjaaDoor
open Go.ChangeShapes Go.RowKit Go.Shelf

theorem prev_day {y m d : Int} (v : Civ.Vld y m d) (h : 2 ≤ d) : Civ.Vld y m (d - 1) ∧ Civ.num y m (d - 1) = Civ.num y m d - 1 := by
  obtain ⟨v1, v2, v3, v4, v5, v6⟩ := v
  exact ⟨⟨v1, v2, v3, v4, by omega, by omega⟩, by unfold Civ.num; omega⟩
theorem prev_month {y m : Int} (v : Civ.Vld y m 1) (hm : 1 < m) : Civ.Vld y (m - 1) (Civ.dim y (m - 1)) ∧ Civ.num y (m - 1) (Civ.dim y (m - 1)) = Civ.num y m 1 - 1 := by
  obtain ⟨v1, v2, v3, v4, v5, v6⟩ := v
  have b := Civ.dim_bd y (m - 1)
  have c := Civ.cum_succ y (m - 1) (by omega) (by omega)
  rw [show m - 1 + 1 = m by omega] at c
  exact ⟨⟨v1, v2, by omega, by omega, by omega, Int.le_refl _⟩, by unfold Civ.num; omega⟩
theorem prev_year {y : Int} (v : Civ.Vld y 1 1) (hy : 1970 < y) : Civ.Vld (y - 1) 12 31 ∧ Civ.num (y - 1) 12 31 = Civ.num y 1 1 - 1 := by
  obtain ⟨v1, v2, v3, v4, v5, v6⟩ := v
  have d12 : Civ.dim (y - 1) 12 = 31 := by simp [Civ.dim]
  have c := Civ.cum_succ (y - 1) 12 (by omega) (by omega)
  have e := Civ.cum_end (y - 1)
  have s := Civ.dby_succ (y - 1)
  have o := Civ.cum_one y
  rw [show y - 1 + 1 = y by omega] at s
  have c' : Civ.cum (y - 1) 13 = Civ.cum (y - 1) 12 + Civ.dim (y - 1) 12 := c
  refine ⟨⟨by omega, by omega, by omega, by omega, by omega, by omega⟩, ?_⟩
  unfold Civ.num
  rw [o, s]
  omega
set_option maxRecDepth 100000 in
set_option maxHeartbeats 4000000 in
theorem ron_down (n y m d k : Int) (v : Civ.Vld y m d) (hn : Civ.num y m d = n) (hk : k = (n + 4) % 7) (w : World) :
    Calls Tryd.prog 44 #[.agg #[.int .i64 n, .int .i64 y, .int .i64 m, .int .i64 d, .int .i64 k], .bool true] w fun e w' => ∃ r, e = .returned r ∧ DV (n - 1) r ∧ Below w.heap.size w w' := by
  have rg := Civ.num_range v
  rw [hn] at rg
  obtain ⟨v1, v2, v3, v4, v5, v6⟩ := id v
  have bd := Civ.dim_bd y m
  have w1 : IntKind.i64.wrap (n - 1) = n - 1 := by rw [IntKind.wrap_i64]; omega
  have w2 : IntKind.i64.wrap (k + 6) = k + 6 := by rw [IntKind.wrap_i64]; omega
  obtain ⟨k', hk'⟩ : ∃ k', (k + 6).tmod 7 = k' := ⟨_, rfl⟩
  have ek : k' = (n - 1 + 4) % 7 := by rw [← hk', Int.tmod_eq_emod_of_nonneg (by omega)]; omega
  have w3 : IntKind.i64.wrap k' = k' := by rw [IntKind.wrap_i64]; omega
  have w4 : IntKind.i64.wrap (d - 1) = d - 1 := by rw [IntKind.wrap_i64]; omega
  have wm5 : IntKind.i64.wrap (m - 1) = m - 1 := by rw [IntKind.wrap_i64]; omega
  have w6 : IntKind.i64.wrap (y - 1) = y - 1 := by rw [IntKind.wrap_i64]; omega
  have Z := Lib.hid (fun (o p : Obj) => ((Below.refl w.heap.size w).alloc (Nat.le_refl _) o).alloc (by simp) p)
  have P := Lib.hid (And.intro v (And.intro hn ek))
  by_cases q1 : 2 ≤ d
  · have t1 : (d - 1 == 0) = false := by rw [beq_eq_false_iff_ne]; omega
    clear v1 v2 v3 v4 v6 hk hn v ek rg bd
    go_enter Tryd.func44, Tryd.ntmps44
    go_wp2_with fail
    refine bodyPost_ret (v := .agg #[.int .i64 (n - 1), .int .i64 y, .int .i64 m, .int .i64 (d - 1), .int .i64 k']) (by simp [results, Tryd.results44, go_sem]) rfl ⟨_, rfl, ⟨_, _, _, _, rfl, fun _ n1 => ?_⟩, ?_⟩
    · obtain ⟨v, hn, ek⟩ := P.out
      have q := prev_day v q1
      exact ⟨q.1, by omega, ek⟩
    · exact Z.out _ _
  · obtain rfl : d = 1 := by omega
    by_cases q2 : m = 1
    · subst q2
      obtain ⟨yy, hyy⟩ : ∃ yy, max (y - 1) 1970 = yy := ⟨_, rfl⟩
      have LE := Lib.hid (fun w0 : World => show Calls Tryd.prog 68 #[.int .i64 yy, .int .i64 12] w0 fun e w' => e = .returned (.tuple #[.int .i64 31, .int .i64 0]) ∧ Below w0.heap.size w0 w' from by
        have q := Cv.lengthR_yes yy 12 w0 (by omega) (by omega) (by omega) (by omega)
        rwa [show Civ.dim yy 12 = 31 by simp [Civ.dim]] at q)
      clear v1 v2 v3 v4 v6 hk hn v ek rg bd q1
      go_enter Tryd.func44, Tryd.ntmps44
      go_wp2_with fail
      refine (LE.out _).mono ?_
      rintro e' w5 ⟨rfl, hb⟩
      obtain ⟨B, hB⟩ : ∃ B, w.heap.size = B := ⟨_, rfl⟩
      have RC := (Row.new (w.alloc (.cells #[.int .i64 (n - 1), .int .i64 (y - 1), .int .i64 12, .int .i64 0, .int .i64 k'] 52)) [.int .i64 0, .int .i64 0, .int .i64 0, .int .i64 0, .int .i64 0] 52).below hb
      have RD := ((Row.new w [.int .i64 (n - 1), .int .i64 (y - 1), .int .i64 12, .int .i64 0, .int .i64 k'] 52).alloc (.cells #[.int .i64 0, .int .i64 0, .int .i64 0, .int .i64 0, .int .i64 0] 52)).below hb
      rw [show (w.alloc (.cells #[.int .i64 (n - 1), .int .i64 (y - 1), .int .i64 12, .int .i64 0, .int .i64 k'] 52)).heap.size = B + 1 by simp [hB]] at RC
      rw [hB] at RD
      have c0 := RC.cell 0; have c1 := RC.cell 1; have c2 := RC.cell 2; have c3 := RC.cell 3; have c4 := RC.cell 4
      have d0 := RD.cell 0; have d1 := RD.cell 1; have d2 := RD.cell 2; have d3 := RD.cell 3; have d4 := RD.cell 4
      simp only [List.getElem?_cons_zero, List.getElem?_cons_succ] at c0 c1 c2 c3 c4 d0 d1 d2 d3 d4
      have fc := fun k => RC.free k
      have fd := fun k => RD.free k
      have HB := Lib.hid (show Below w.heap.size w w5 from (Z.out _ _).trans (hb.mono (Z.out _ _).size))
      have hBB : Hid (w.heap.size ≤ B) := Lib.hid (by omega)
      clear hb RC RD
      go_wp2_with fail
      refine bodyPost_ret (v := .agg #[.int .i64 (n - 1), .int .i64 (y - 1), .int .i64 12, .int .i64 31, .int .i64 k']) (by simp [results, Tryd.results44, go_sem, c0, c1, c2, c3, c4]) rfl ⟨_, rfl, ⟨_, _, _, _, rfl, fun n0 n1 => ?_⟩, ?_⟩
      · obtain ⟨v, hn, ek⟩ := P.out
        have hy : 1970 < y := by
          refine Classical.byContradiction fun no => ?_
          have e : y = 1970 := by have := v.1; omega
          subst e
          have e1 : Civ.num 1970 1 1 = 0 := by decide
          omega
        have q := prev_year v hy
        exact ⟨q.1, by omega, ek⟩
      · have b := HB.out
        have h1 : w.heap.size ≤ B + 1 := by have := hBB.out; omega
        exact (((((b.setCell (p := ⟨B, 3, none⟩) hBB.out _).setCell (p := ⟨B + 1, 0, none⟩) h1 _).setCell (p := ⟨B + 1, 1, none⟩) h1 _).setCell (p := ⟨B + 1, 2, none⟩) h1 _).setCell (p := ⟨B + 1, 3, none⟩) h1 _).setCell (p := ⟨B + 1, 4, none⟩) h1 _
    · have t3 : (m - 1 == 0) = false := by rw [beq_eq_false_iff_ne]; omega
      have hyy : max y 1970 = y := by omega
      obtain ⟨D, hD⟩ : ∃ D, Civ.dim y (m - 1) = D := ⟨_, rfl⟩
      have LE := Lib.hid (fun w0 : World => show Calls Tryd.prog 68 #[.int .i64 y, .int .i64 (m - 1)] w0 fun e w' => e = .returned (.tuple #[.int .i64 D, .int .i64 0]) ∧ Below w0.heap.size w0 w' from by
        have q := Cv.lengthR_yes y (m - 1) w0 (by omega) (by omega) (by omega) (by omega)
        rwa [hD] at q)
      have HD := Lib.hid (And.intro hD (show 1 < m by omega))
      clear v1 v2 v3 v4 v6 hk hn v ek rg bd q1 hD
      go_enter Tryd.func44, Tryd.ntmps44
      go_wp2_with fail
      refine (LE.out _).mono ?_
      rintro e' w5 ⟨rfl, hb⟩
      obtain ⟨B, hB⟩ : ∃ B, w.heap.size = B := ⟨_, rfl⟩
      have RC := (Row.new (w.alloc (.cells #[.int .i64 (n - 1), .int .i64 y, .int .i64 (m - 1), .int .i64 0, .int .i64 k'] 52)) [.int .i64 0, .int .i64 0, .int .i64 0, .int .i64 0, .int .i64 0] 52).below hb
      have RD := ((Row.new w [.int .i64 (n - 1), .int .i64 y, .int .i64 (m - 1), .int .i64 0, .int .i64 k'] 52).alloc (.cells #[.int .i64 0, .int .i64 0, .int .i64 0, .int .i64 0, .int .i64 0] 52)).below hb
      rw [show (w.alloc (.cells #[.int .i64 (n - 1), .int .i64 y, .int .i64 (m - 1), .int .i64 0, .int .i64 k'] 52)).heap.size = B + 1 by simp [hB]] at RC
      rw [hB] at RD
      have c0 := RC.cell 0; have c1 := RC.cell 1; have c2 := RC.cell 2; have c3 := RC.cell 3; have c4 := RC.cell 4
      have d0 := RD.cell 0; have d1 := RD.cell 1; have d2 := RD.cell 2; have d3 := RD.cell 3; have d4 := RD.cell 4
      simp only [List.getElem?_cons_zero, List.getElem?_cons_succ] at c0 c1 c2 c3 c4 d0 d1 d2 d3 d4
      have fc := fun k => RC.free k
      have fd := fun k => RD.free k
      have HB := Lib.hid (show Below w.heap.size w w5 from (Z.out _ _).trans (hb.mono (Z.out _ _).size))
      have hBB : Hid (w.heap.size ≤ B) := Lib.hid (by omega)
      clear hb RC RD
      go_wp2_with fail
      refine bodyPost_ret (v := .agg #[.int .i64 (n - 1), .int .i64 y, .int .i64 (m - 1), .int .i64 D, .int .i64 k']) (by simp [results, Tryd.results44, go_sem, c0, c1, c2, c3, c4]) rfl ⟨_, rfl, ⟨_, _, _, _, rfl, fun n0 n1 => ?_⟩, ?_⟩
      · obtain ⟨v, hn, ek⟩ := P.out
        have q := prev_month v HD.out.2
        rw [HD.out.1] at q
        exact ⟨q.1, by omega, ek⟩
      · have b := HB.out
        have h1 : w.heap.size ≤ B + 1 := by have := hBB.out; omega
        exact (((((b.setCell (p := ⟨B, 3, none⟩) hBB.out _).setCell (p := ⟨B + 1, 0, none⟩) h1 _).setCell (p := ⟨B + 1, 1, none⟩) h1 _).setCell (p := ⟨B + 1, 2, none⟩) h1 _).setCell (p := ⟨B + 1, 3, none⟩) h1 _).setCell (p := ⟨B + 1, 4, none⟩) h1 _
end Go.Proofs.YtbehendogcghjaaDoor
