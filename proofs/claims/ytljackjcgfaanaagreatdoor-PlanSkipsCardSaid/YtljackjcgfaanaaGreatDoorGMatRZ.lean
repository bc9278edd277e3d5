/- Contracts of the document's program of chapter match: on (the next day, the day before). Contracts of the document's program of chapter match: Day, Is. Contracts of the document's program of chapter match: Is. Contracts of the document's program of chapter match: Ever. Contracts of the document's program of chapter match: from (the first time from one on). Contract of the document's program of chapter match: List. Contracts of the document's program of chapter match: Next. Plain facts on the count of a span, day by day. Contract of the document's program of chapter match: Count. -/
import Derived.Test.YtljackjcgfaanaaGreatDoorGMatCx
import Derived.Deep.CutRange
/- Contracts of the document's program of chapter match: on (the next day, the day before). -/
/- Contracts of the document's program of chapter match: on (the next day, the day before). -/
namespace Go.Proofs.YtljackjcgfaanaaGreatDoor
open Go.ChangeShapes Go.RowKit Go.Shelf

/-- a day as the document's program holds it: its number; in range its date and its day of the week are right -/
def DV (n : Int) (v : Value) : Prop := ∃ y m d k : Int, v = .agg #[.int .i64 n, .int .i64 y, .int .i64 m, .int .i64 d, .int .i64 k] ∧ (0 ≤ n → n ≤ 2932896 → Civ.Vld y m d ∧ Civ.num y m d = n ∧ k = (n + 4) % 7)
theorem next_day {y m d : Int} (v : Civ.Vld y m d) (h : d + 1 ≤ Civ.dim y m) : Civ.Vld y m (d + 1) ∧ Civ.num y m (d + 1) = Civ.num y m d + 1 := by
  obtain ⟨v1, v2, v3, v4, v5, v6⟩ := v
  exact ⟨⟨v1, v2, v3, v4, by omega, h⟩, by unfold Civ.num; omega⟩
theorem next_month {y m d : Int} (v : Civ.Vld y m d) (h : d = Civ.dim y m) (hm : m < 12) : Civ.Vld y (m + 1) 1 ∧ Civ.num y (m + 1) 1 = Civ.num y m d + 1 := by
  obtain ⟨v1, v2, v3, v4, v5, v6⟩ := v
  have b := Civ.dim_bd y (m + 1)
  exact ⟨⟨v1, v2, by omega, by omega, by omega, by omega⟩, by unfold Civ.num; rw [Civ.cum_succ y m v3 v4]; omega⟩
theorem next_year {y d : Int} (v : Civ.Vld y 12 d) (h : d = Civ.dim y 12) (hy : y < 9999) : Civ.Vld (y + 1) 1 1 ∧ Civ.num (y + 1) 1 1 = Civ.num y 12 d + 1 := by
  obtain ⟨v1, v2, v3, v4, v5, v6⟩ := v
  have b := Civ.dim_bd (y + 1) 1
  have c := Civ.cum_succ y 12 (by omega) (by omega)
  have e := Civ.cum_end y
  have s := Civ.dby_succ y
  have o := Civ.cum_one (y + 1)
  refine ⟨⟨by omega, by omega, by omega, by omega, by omega, by omega⟩, ?_⟩
  unfold Civ.num
  rw [o, s, h]
  have c' : Civ.cum y 13 = Civ.cum y 12 + Civ.dim y 12 := c
  omega
set_option maxRecDepth 100000 in
set_option maxHeartbeats 4000000 in
theorem ron_up (n y m d k : Int) (v : Civ.Vld y m d) (hn : Civ.num y m d = n) (hk : k = (n + 4) % 7) (w : World) :
    Calls Tryz.prog 121 #[.agg #[.int .i64 n, .int .i64 y, .int .i64 m, .int .i64 d, .int .i64 k], .bool false] w fun e w' => ∃ r, e = .returned r ∧ DV (n + 1) r ∧ Below w.heap.size w w' := by
  have rg := Civ.num_range v
  rw [hn] at rg
  obtain ⟨v1, v2, v3, v4, v5, v6⟩ := id v
  have bd := Civ.dim_bd y m
  have LE := Lib.hid (fun w0 : World => Cv.lengthR_yes y m w0 v1 v2 v3 v4)
  obtain ⟨D, hD⟩ : ∃ D, Civ.dim y m = D := ⟨_, rfl⟩
  rw [hD] at LE v6 bd
  have w1 : IntKind.i64.wrap (n + 1) = n + 1 := by rw [IntKind.wrap_i64]; omega
  have w2 : IntKind.i64.wrap (k + 1) = k + 1 := by rw [IntKind.wrap_i64]; omega
  obtain ⟨k', hk'⟩ : ∃ k', (k + 1).tmod 7 = k' := ⟨_, rfl⟩
  have ek : k' = (n + 1 + 4) % 7 := by rw [← hk', Int.tmod_eq_emod_of_nonneg (by omega)]; omega
  have w3 : IntKind.i64.wrap k' = k' := by rw [IntKind.wrap_i64]; omega
  have w4 : IntKind.i64.wrap (d + 1) = d + 1 := by rw [IntKind.wrap_i64]; omega
  have wm5 : IntKind.i64.wrap (m + 1) = m + 1 := by rw [IntKind.wrap_i64]; omega
  have w6 : IntKind.i64.wrap (y + 1) = y + 1 := by rw [IntKind.wrap_i64]; omega
  have Z := Lib.hid (((Below.refl _ w).alloc (Nat.le_refl _) (.cells #[.int .i64 (n + 1), .int .i64 y, .int .i64 m, .int .i64 (d + 1), .int .i64 k'] 110)).alloc (by simp) (.cells #[.int .i64 0, .int .i64 0, .int .i64 0, .int .i64 0, .int .i64 0] 110))
  have P := Lib.hid (And.intro v (And.intro hn (And.intro hD (And.intro ek (And.intro v5 v6)))))
  clear v1 v2 v3 v4 hk hn v ek rg hD
  go_enter Tryz.func121, Tryz.ntmps121
  go_wp2_with fail
  refine (LE.out _).mono ?_
  rintro e' w5 ⟨rfl, hb⟩
  obtain ⟨B, hB⟩ : ∃ B, w.heap.size = B := ⟨_, rfl⟩
  have RC := (Row.new (w.alloc (.cells #[.int .i64 (n + 1), .int .i64 y, .int .i64 m, .int .i64 (d + 1), .int .i64 k'] 110)) [.int .i64 0, .int .i64 0, .int .i64 0, .int .i64 0, .int .i64 0] 110).below hb
  have RD := ((Row.new w [.int .i64 (n + 1), .int .i64 y, .int .i64 m, .int .i64 (d + 1), .int .i64 k'] 110).alloc (.cells #[.int .i64 0, .int .i64 0, .int .i64 0, .int .i64 0, .int .i64 0] 110)).below hb
  rw [show (w.alloc (.cells #[.int .i64 (n + 1), .int .i64 y, .int .i64 m, .int .i64 (d + 1), .int .i64 k'] 110)).heap.size = B + 1 by simp [hB]] at RC
  rw [hB] at RD
  have c0 := RC.cell 0; have c1 := RC.cell 1; have c2 := RC.cell 2; have c3 := RC.cell 3; have c4 := RC.cell 4
  have d0 := RD.cell 0; have d1 := RD.cell 1; have d2 := RD.cell 2; have d3 := RD.cell 3; have d4 := RD.cell 4
  simp only [List.getElem?_cons_zero, List.getElem?_cons_succ] at c0 c1 c2 c3 c4 d0 d1 d2 d3 d4
  have fc := fun k => RC.free k
  have fd := fun k => RD.free k
  have RCH := Lib.hid RC
  have RDH := Lib.hid RD
  have HB := Lib.hid (show Below w.heap.size w w5 from Z.out.trans (hb.mono Z.out.size))
  have hBB : Hid (w.heap.size ≤ B) := Lib.hid (by omega)
  clear hb RC RD
  by_cases q1 : D < d + 1
  · have t1 : decide (D < d + 1) = true := decide_eq_true q1
    obtain rfl : d = D := by omega
    by_cases q2 : m = 12
    · subst q2
      clear q1
      go_upto_region 20 with fail
      have RD1 := (RDH.out.set 3 (.int .i64 1)).set 2 (.int .i64 13)
      have RC1 := (RCH.out.other ⟨B, 3, none⟩ (.int .i64 1) (by simp)).other ⟨B, 2, none⟩ (.int .i64 13) (by simp)
      have HB1 := Lib.hid ((HB.out.setCell (p := ⟨B, 3, none⟩) hBB.out (.int .i64 1)).setCell (p := ⟨B, 2, none⟩) hBB.out (.int .i64 13))
      clear c0 c1 c2 c3 c4 d0 d1 d2 d3 d4 fc fd
      generalize (w5.setCell ⟨B, 3, none⟩ (.int .i64 1)).setCell ⟨B, 2, none⟩ (.int .i64 13) = W2 at RD1 RC1 HB1 ⊢
      have c0 := RC1.cell 0; have c1 := RC1.cell 1; have c2 := RC1.cell 2; have c3 := RC1.cell 3; have c4 := RC1.cell 4
      have d0 := RD1.cell 0; have d1 := RD1.cell 1; have d2 := RD1.cell 2; have d3 := RD1.cell 3; have d4 := RD1.cell 4
      simp only [List.set_cons_zero, List.set_cons_succ, List.getElem?_cons_zero, List.getElem?_cons_succ] at c0 c1 c2 c3 c4 d0 d1 d2 d3 d4
      have fc := fun k => RC1.free k
      have fd := fun k => RD1.free k
      clear RC1 RD1
      go_wp2_with fail
      refine bodyPost_ret (v := .agg #[.int .i64 (n + 1), .int .i64 (y + 1), .int .i64 1, .int .i64 1, .int .i64 k']) (by simp [results, Tryz.results121, go_sem, c0, c1, c2, c3, c4]) rfl ⟨_, rfl, ⟨_, _, _, _, rfl, fun _ n1 => ?_⟩, ?_⟩
      · obtain ⟨v, hn, hD, ek, _, _⟩ := P.out
        have r := Civ.num_range v
        have hy : y < 9999 := by
          refine Classical.byContradiction fun no => ?_
          have e : y = 9999 := by have := v.2.1; omega
          subst e
          have e1 : Civ.num 9999 12 d = 2932866 + d - 1 := by unfold Civ.num Civ.dby Civ.lps Civ.cum; simp [show Civ.lp 9999 = 0 by decide]
          have e2 : Civ.dim 9999 12 = 31 := by decide
          omega
        have q := next_year v hD.symm hy
        exact ⟨q.1, by omega, ek⟩
      · have b := HB1.out
        have h1 : w.heap.size ≤ B + 1 := by have := hBB.out; omega
        exact ((((((b.setCell (p := ⟨B, 2, none⟩) hBB.out _).setCell (p := ⟨B, 1, none⟩) hBB.out _).setCell (p := ⟨B + 1, 0, none⟩) h1 _).setCell (p := ⟨B + 1, 1, none⟩) h1 _).setCell (p := ⟨B + 1, 2, none⟩) h1 _).setCell (p := ⟨B + 1, 3, none⟩) h1 _).setCell (p := ⟨B + 1, 4, none⟩) h1 _
    · have t2 : (m + 1 == 13) = false := by rw [beq_eq_false_iff_ne]; omega
      go_wp2_with fail
      refine bodyPost_ret (v := .agg #[.int .i64 (n + 1), .int .i64 y, .int .i64 (m + 1), .int .i64 1, .int .i64 k']) (by simp [results, Tryz.results121, go_sem, c0, c1, c2, c3, c4]) rfl ⟨_, rfl, ⟨_, _, _, _, rfl, fun _ n1 => ?_⟩, ?_⟩
      · obtain ⟨v, hn, hD, ek, _, _⟩ := P.out
        have q := next_month v hD.symm (by have := v.2.2.2.1; omega)
        exact ⟨q.1, by omega, ek⟩
      · have b := HB.out
        have h1 : w.heap.size ≤ B + 1 := by have := hBB.out; omega
        exact ((((((b.setCell (p := ⟨B, 3, none⟩) hBB.out _).setCell (p := ⟨B, 2, none⟩) hBB.out _).setCell (p := ⟨B + 1, 0, none⟩) h1 _).setCell (p := ⟨B + 1, 1, none⟩) h1 _).setCell (p := ⟨B + 1, 2, none⟩) h1 _).setCell (p := ⟨B + 1, 3, none⟩) h1 _).setCell (p := ⟨B + 1, 4, none⟩) h1 _
  · have t1 : decide (D < d + 1) = false := decide_eq_false q1
    go_wp2_with fail
    refine bodyPost_ret (v := .agg #[.int .i64 (n + 1), .int .i64 y, .int .i64 m, .int .i64 (d + 1), .int .i64 k']) (by simp [results, Tryz.results121, go_sem, c0, c1, c2, c3, c4]) rfl ⟨_, rfl, ⟨_, _, _, _, rfl, fun _ n1 => ?_⟩, ?_⟩
    · obtain ⟨v, hn, hD, ek, _, _⟩ := P.out
      have q := next_day v (by omega)
      exact ⟨q.1, by omega, ek⟩
    · have b := HB.out
      have h1 : w.heap.size ≤ B + 1 := by have := hBB.out; omega
      exact ((((b.setCell (p := ⟨B + 1, 0, none⟩) h1 _).setCell (p := ⟨B + 1, 1, none⟩) h1 _).setCell (p := ⟨B + 1, 2, none⟩) h1 _).setCell (p := ⟨B + 1, 3, none⟩) h1 _).setCell (p := ⟨B + 1, 4, none⟩) h1 _
end Go.Proofs.YtljackjcgfaanaaGreatDoor
/- Contracts of the document's program of chapter match: Day, Is. Contracts of the document's program of chapter match: Is. Contracts of the document's program of chapter match: Ever. -/
/- Contracts of the document's program of chapter match: Day, Is. -/
namespace Go.Proofs.YtljackjcgfaanaaGreatDoor
open Go.ChangeShapes Go.RowKit Go.Shelf

theorem day_ex (x : Exp.Ex) (n : Int) (h0 : 0 ≤ n) (h1 : n ≤ 2932896) : ∃ (y : Int) (m d k : Nat), Civ.Vld y m d ∧ Civ.num y m d = n ∧ (n + 4) % 7 = k ∧ Mat.mt x.a4 x.a3 x.a5 x.b3 x.b5 m d k = x.onB n := by
  obtain ⟨y, m, d, v, rfl⟩ := Civ.date_ex n h0 h1
  obtain ⟨m, rfl⟩ := Int.eq_ofNat_of_zero_le (show 0 ≤ m by have := v.2.2.1; omega)
  obtain ⟨d, rfl⟩ := Int.eq_ofNat_of_zero_le (show 0 ≤ d by have := v.2.2.2.2.1; omega)
  obtain ⟨k, hk⟩ := Int.eq_ofNat_of_zero_le (show 0 ≤ (Civ.num y m d + 4) % 7 by omega)
  refine ⟨y, m, d, k, v, rfl, hk, ?_⟩
  apply Bool.eq_iff_iff.2
  rw [onB_iff]
  unfold Exp.Ex.On
  rw [Mat.on_iff v, hk]
  exact Iff.rfl
set_option maxRecDepth 100000 in
set_option maxHeartbeats 4000000 in
theorem rday_any (x : Exp.Ex) (hx : x.Bd) (z t : Int) (w : World) (L : LayM w) :
    Calls Tryz.prog 55 #[.agg #[.int .u64 x.a0, .int .u64 x.a1, .int .u64 x.a2, .int .u64 x.a3, .int .u64 x.a4, .int .u64 x.a5, .bool x.b3, .bool x.b5], .int .i64 z, .int .i64 t] w fun e W' => e = .returned (.tuple #[.bool (dayO x z t), .int .i64 (errC x z [t])]) ∧ Below w.heap.size w W' := by
  have CK := Lib.hid (fun w0 R => rcheck_any x hx z (w.heap.size + 1) [t] (by simp) w0 R)
  have RW := Lib.hid (one_row x t w)
  have LL := Lib.hid L
  by_cases h : errC x z [t] = 0
  · obtain ⟨hk, hz, ht⟩ := errC_one h
    have DO : Hid (dayO x z t = (inT (t + 60 * z) && x.onB ((t + 60 * z) / 86400))) := Lib.hid (by unfold dayO; rw [if_pos h])
    have w1 : IntKind.i64.wrap (z * 60) = z * 60 := by rw [IntKind.wrap_i64]; omega
    obtain ⟨u, hu⟩ : ∃ u, t + 60 * z = u := ⟨_, rfl⟩
    have w2 : IntKind.i64.wrap (t + z * 60) = u := by rw [IntKind.wrap_i64]; omega
    rw [hu] at DO
    rw [h] at CK ⊢
    by_cases h0 : 0 ≤ u
    · have t0 : decide (0 ≤ u) = true := decide_eq_true h0
      by_cases h1 : u ≤ 253402300799
      · have t1 : decide (u ≤ 253402300799) = true := decide_eq_true h1
        have w3 : IntKind.i64.wrap (u.tdiv 86400) = u / 86400 := by rw [Int.tdiv_eq_ediv_of_nonneg h0, IntKind.wrap_i64]; omega
        have IT : Hid (inT u = true) := Lib.hid (inT_iff.2 ⟨h0, h1⟩)
        obtain ⟨y, m, d, k, v, hn, hkk, hm⟩ := day_ex x (u / 86400) (by omega) (by omega)
        obtain ⟨N, hN⟩ : ∃ N, u / 86400 = N := ⟨_, rfl⟩
        rw [hN] at w3 hn hkk hm DO
        obtain ⟨ob, hob⟩ : ∃ b, x.onB N = b := ⟨_, rfl⟩
        rw [hob] at hm DO
        have DA := Lib.hid (fun w0 : World => rdate_any y m d N w0 v hn)
        rw [hkk] at DA
        have MT := Lib.hid (fun w0 : World => rmatches_any x hx N y m d k w0)
        rw [hm] at MT
        clear h hk hz ht hu L h0 h1 v hn hkk hm hN hob hx
        go_enter Tryz.func55, Tryz.ntmps55
        go_wp2_with (first
          | (go_at_call 96; refine (CK.out _ RW.out).mono ?_; rintro e V ⟨rfl, hb⟩; have Q := Lib.hid (BC.one LL.out hb); obtain ⟨y0, y1, y2, y3, y4, y5, y6, y7⟩ := Q.out.cells; clear hb))
        go_region_held3 (fun w' => w'.cell? ⟨w.heap.size, 0, none⟩ = some (.int .u64 x.a0) ∧ w'.cell? ⟨w.heap.size, 1, none⟩ = some (.int .u64 x.a1) ∧ w'.cell? ⟨w.heap.size, 2, none⟩ = some (.int .u64 x.a2) ∧ w'.cell? ⟨w.heap.size, 3, none⟩ = some (.int .u64 x.a3) ∧ w'.cell? ⟨w.heap.size, 4, none⟩ = some (.int .u64 x.a4) ∧ w'.cell? ⟨w.heap.size, 5, none⟩ = some (.int .u64 x.a5) ∧ w'.cell? ⟨w.heap.size, 6, none⟩ = some (.bool x.b3) ∧ w'.cell? ⟨w.heap.size, 7, none⟩ = some (.bool x.b5)) (go_keep)
          (first
            | (go_at_call 98; refine (DA.out _).mono ?_; rintro e V' ⟨rfl, hb⟩; have Q := Lib.hid (by first | exact Q.out.next hb | exact (Q.out.next (Below.refl _ _).drew).next hb); obtain ⟨y0, y1, y2, y3, y4, y5, y6, y7⟩ := Q.out.cells; clear hb)
            | (go_at_call 97; refine (MT.out _).mono ?_; rintro e V' ⟨rfl, hb⟩; have Q := Lib.hid (by first | exact Q.out.next hb | exact (Q.out.next (Below.refl _ _).drew).next hb); obtain ⟨y0, y1, y2, y3, y4, y5, y6, y7⟩ := Q.out.cells; clear hb))
        go_wp2_with fail
        go_ret2
        exact ⟨by rw [DO.out, IT.out, Bool.true_and]; rfl, by first | exact Q.out.be | exact below_drewN' Q.out.be _⟩
      · have t1 : decide (u ≤ 253402300799) = false := decide_eq_false h1
        have IT : Hid (inT u = false) := Lib.hid (by unfold inT; simp; omega)
        clear h hk hz ht hu L h0 h1 hx
        go_enter Tryz.func55, Tryz.ntmps55
        go_wp2_with (first
          | (go_at_call 96; refine (CK.out _ RW.out).mono ?_; rintro e V ⟨rfl, hb⟩; have Q := Lib.hid (BC.one LL.out hb); clear hb))
        go_quiet (fail)
        go_wp2_with fail
        go_ret2
        exact ⟨by rw [DO.out, IT.out, Bool.false_and]; rfl, below_drewN' Q.out.be _⟩
    · have t0 : decide (0 ≤ u) = false := decide_eq_false h0
      have IT : Hid (inT u = false) := Lib.hid (by unfold inT; simp; omega)
      clear h hk hz ht hu L h0 hx
      go_enter Tryz.func55, Tryz.ntmps55
      go_wp2_with (first
        | (go_at_call 96; refine (CK.out _ RW.out).mono ?_; rintro e V ⟨rfl, hb⟩; have Q := Lib.hid (BC.one LL.out hb); clear hb))
      go_quiet (fail)
      go_wp2_with fail
      go_ret2
      exact ⟨by rw [DO.out, IT.out, Bool.false_and]; rfl, below_drewN' Q.out.be _⟩
  · have DO : Hid (dayO x z t = false) := Lib.hid (by unfold dayO; rw [if_neg h])
    obtain ⟨E, hE⟩ : ∃ E, errC x z [t] = E := ⟨_, rfl⟩
    rw [hE] at h CK ⊢
    have t1 : (E != 0) = true := by rw [bne_iff_ne]; exact h
    clear h hE L hx
    go_enter Tryz.func55, Tryz.ntmps55
    go_wp2_with (first
      | (go_at_call 96; refine (CK.out _ RW.out).mono ?_; rintro e V ⟨rfl, hb⟩; have Q := Lib.hid (BC.one LL.out hb); clear hb))
    go_ret2
    exact ⟨by rw [DO.out]; rfl, Q.out.be⟩
end Go.Proofs.YtljackjcgfaanaaGreatDoor
/- Contracts of the document's program of chapter match: Is. -/
namespace Go.Proofs.YtljackjcgfaanaaGreatDoor
open Go.ChangeShapes Go.RowKit Go.Shelf

theorem MC.rday {w W : World} {l : List (Nat × Exp.Ex)} (h : MC w l W) (x : Exp.Ex) (hx : x.Bd) (z t : Int) (r : Bool) (e : Int) (hr : dayO x z t = r) (he : errC x z [t] = e) :
    Calls Tryz.prog 55 #[.agg #[.int .u64 x.a0, .int .u64 x.a1, .int .u64 x.a2, .int .u64 x.a3, .int .u64 x.a4, .int .u64 x.a5, .bool x.b3, .bool x.b5], .int .i64 z, .int .i64 t] W fun e' W' => e' = .returned (.tuple #[.bool r, .int .i64 e]) ∧ MC w l W' :=
  (rday_any x hx z t W h.lay).mono fun _ _ ⟨h1, h2⟩ => ⟨by rw [h1, hr, he], h.next h2⟩
set_option maxRecDepth 100000 in
set_option maxHeartbeats 4000000 in
theorem ris_any (x : Exp.Ex) (hx : x.Bd) (z t : Int) (w : World) (L : LayM w) :
    Calls Tryz.prog 38 #[.agg #[.int .u64 x.a0, .int .u64 x.a1, .int .u64 x.a2, .int .u64 x.a3, .int .u64 x.a4, .int .u64 x.a5, .bool x.b3, .bool x.b5], .int .i64 z, .int .i64 t] w fun e W' => e = .returned (.tuple #[.bool (isO x z t), .int .i64 (errC x z [t])]) ∧ Below w.heap.size w W' := by
  have Q := Lib.hid ((MC.start L).box x)
  by_cases h : errC x z [t] = 0
  · obtain ⟨hk, hz, ht⟩ := errC_one h
    cases hd : dayO x z t with
    | false =>
      have DY := Lib.hid (fun l W (q : MC w l W) => q.rday x hx z t false 0 hd h)
      have IO : Hid (isO x z t = false) := Lib.hid (by
        cases q : isO x z t with
        | false => rfl
        | true => rw [day_of_is q] at hd; cases hd)
      rw [h]
      clear h hk hz ht hd L hx
      go_enter Tryz.func38, Tryz.ntmps38
      go_wp2_with fail
      refine (DY.out _ _ Q.out).mono ?_
      rintro e' w1 ⟨rfl, q⟩
      have Q := Lib.hid q
      clear q
      go_wp2_with fail
      go_ret2
      exact ⟨by rw [IO.out]; rfl, Q.out.below⟩
    | true =>
      have DY := Lib.hid (fun l W (q : MC w l W) => q.rday x hx z t true 0 hd h)
      have w1 : IntKind.i64.wrap (z * 60) = z * 60 := by rw [IntKind.wrap_i64]; omega
      obtain ⟨u, hu⟩ : ∃ u, t + 60 * z = u := ⟨_, rfl⟩
      have w2 : IntKind.i64.wrap (t + z * 60) = u := by rw [IntKind.wrap_i64]; omega
      have hd' := hd
      unfold dayO at hd'
      rw [if_pos h, Bool.and_eq_true, hu, onB_iff] at hd'
      have u0 := (inT_iff.1 hd'.1).1
      have w3 : u.tmod 86400 = u % 86400 := Int.tmod_eq_emod_of_nonneg u0
      have CL := Lib.hid (fun w0 : World => rclock_any x hx (u % 86400) w0 (by omega) (by omega))
      have IO : Hid (isO x z t = Mat.clk x.a2 x.a1 x.a0 (u % 86400)) := Lib.hid (by
        apply Bool.eq_iff_iff.2
        rw [isO_iff h, hu, lm_iff]
        unfold Mat.Ck
        exact ⟨fun q => q.2.2.2, fun q => ⟨hd'.2, by omega, by omega, q⟩⟩)
      obtain ⟨b, hb⟩ : ∃ b, Mat.clk x.a2 x.a1 x.a0 (u % 86400) = b := ⟨_, rfl⟩
      rw [hb] at CL IO
      obtain ⟨s, hs⟩ : ∃ s, u % 86400 = s := ⟨_, rfl⟩
      rw [hs] at CL w3
      rw [h]
      clear h hk hz ht hd L hx hd' hu u0 hb hs
      go_enter Tryz.func38, Tryz.ntmps38
      go_wp2_with fail
      refine (DY.out _ _ Q.out).mono ?_
      rintro e' w1 ⟨rfl, q⟩
      obtain ⟨B, hB⟩ : ∃ B, w.heap.size = B := ⟨_, rfl⟩
      rw [hB] at q
      obtain ⟨c0, c1, c2, c3, c4, c5, c6, c7⟩ := q.cells B x (by simp)
      have Q := Lib.hid q
      clear q
      go_wp2_with fail
      refine (CL.out _).mono ?_
      rintro e' w2 ⟨rfl, q⟩
      have Q := Lib.hid (Q.out.next q)
      clear q
      go_wp2_with fail
      go_ret2
      exact ⟨by rw [IO.out]; rfl, Q.out.below⟩
  · obtain ⟨E, hE⟩ : ∃ E, errC x z [t] = E := ⟨_, rfl⟩
    have DY := Lib.hid (fun l W (q : MC w l W) => q.rday x hx z t false E (dayO_no h) hE)
    have IO : Hid (isO x z t = false) := Lib.hid (isO_no h)
    rw [hE] at h ⊢
    have t1 : (E != 0) = true := by rw [bne_iff_ne]; exact h
    clear h hE L hx
    go_enter Tryz.func38, Tryz.ntmps38
    go_wp2_with fail
    refine (DY.out _ _ Q.out).mono ?_
    rintro e' w1 ⟨rfl, q⟩
    have Q := Lib.hid q
    clear q
    go_wp2_with fail
    go_ret2
    exact ⟨by rw [IO.out]; rfl, Q.out.below⟩
end Go.Proofs.YtljackjcgfaanaaGreatDoor
/- Contracts of the document's program of chapter match: Ever. -/
namespace Go.Proofs.YtljackjcgfaanaaGreatDoor
open Go.ChangeShapes Go.RowKit Go.Shelf

/-- a day in its box -/
def dL (n y m d k : Int) : List Value := [.int .i64 n, .int .i64 y, .int .i64 m, .int .i64 d, .int .i64 k]
/-- an expression in box A and the day n in box B -/
structure ED (w : World) (A B : Nat) (x : Exp.Ex) (n y : Int) (m d k : Nat) (W : World) : Prop where
  below : Below w.heap.size w W
  ex : Row W A 24 (exL x)
  dy : Row W B 110 (dL n y m d k)
  ne : A ≠ B
  b0 : w.heap.size ≤ B
  v : Civ.Vld y m d
  hn : Civ.num y m d = n
  hk : (n + 4) % 7 = k
theorem ED.next {w W W' : World} {A B : Nat} {x : Exp.Ex} {n y : Int} {m d k : Nat} (h : ED w A B x n y m d k W) (hb : Below W.heap.size W W') : ED w A B x n y m d k W' :=
  ⟨h.below.trans (hb.mono h.below.size), h.ex.below hb, h.dy.below hb, h.ne, h.b0, h.v, h.hn, h.hk⟩
theorem ED.cells {w W : World} {A B : Nat} {x : Exp.Ex} {n y : Int} {m d k : Nat} (h : ED w A B x n y m d k W) : (W.cell? ⟨A, 0, none⟩ = some (.int .u64 x.a0) ∧ W.cell? ⟨A, 1, none⟩ = some (.int .u64 x.a1) ∧ W.cell? ⟨A, 2, none⟩ = some (.int .u64 x.a2) ∧ W.cell? ⟨A, 3, none⟩ = some (.int .u64 x.a3) ∧ W.cell? ⟨A, 4, none⟩ = some (.int .u64 x.a4) ∧ W.cell? ⟨A, 5, none⟩ = some (.int .u64 x.a5) ∧ W.cell? ⟨A, 6, none⟩ = some (.bool x.b3) ∧ W.cell? ⟨A, 7, none⟩ = some (.bool x.b5)) ∧ W.cell? ⟨B, 0, none⟩ = some (.int .i64 n) ∧ W.cell? ⟨B, 1, none⟩ = some (.int .i64 y) ∧ W.cell? ⟨B, 2, none⟩ = some (.int .i64 m) ∧ W.cell? ⟨B, 3, none⟩ = some (.int .i64 d) ∧ W.cell? ⟨B, 4, none⟩ = some (.int .i64 k) :=
  ⟨⟨h.ex.cell 0, h.ex.cell 1, h.ex.cell 2, h.ex.cell 3, h.ex.cell 4, h.ex.cell 5, h.ex.cell 6, h.ex.cell 7⟩, h.dy.cell 0, h.dy.cell 1, h.dy.cell 2, h.dy.cell 3, h.dy.cell 4⟩
/-- another day is stored -/
theorem ED.put {w W : World} {A B : Nat} {x : Exp.Ex} {n y : Int} {m d k : Nat} (h : ED w A B x n y m d k W) (n' y' : Int) (m' d' k' : Nat) (v : Civ.Vld y' m' d') (hn : Civ.num y' m' d' = n') (hk : (n' + 4) % 7 = k') :
    ED w A B x n' y' m' d' k' (((((W.setCell ⟨B, 0, none⟩ (.int .i64 n')).setCell ⟨B, 1, none⟩ (.int .i64 y')).setCell ⟨B, 2, none⟩ (.int .i64 m')).setCell ⟨B, 3, none⟩ (.int .i64 d')).setCell ⟨B, 4, none⟩ (.int .i64 k')) :=
  ⟨((((h.below.setCell (p := ⟨B, 0, none⟩) h.b0 _).setCell (p := ⟨B, 1, none⟩) h.b0 _).setCell (p := ⟨B, 2, none⟩) h.b0 _).setCell (p := ⟨B, 3, none⟩) h.b0 _).setCell (p := ⟨B, 4, none⟩) h.b0 _,
   ((((h.ex.other ⟨B, 0, none⟩ _ h.ne).other ⟨B, 1, none⟩ _ h.ne).other ⟨B, 2, none⟩ _ h.ne).other ⟨B, 3, none⟩ _ h.ne).other ⟨B, 4, none⟩ _ h.ne,
   ((((h.dy.set 0 (.int .i64 n')).set 1 (.int .i64 y')).set 2 (.int .i64 m')).set 3 (.int .i64 d')).set 4 (.int .i64 k'),
   h.ne, h.b0, v, hn, hk⟩
/-- matches at a day in its box -/
theorem ED.mt {w W : World} {A B : Nat} {x : Exp.Ex} {n y : Int} {m d k : Nat} (h : ED w A B x n y m d k W) (hx : x.Bd) (b : Bool) (hb : x.onB n = b) :
    Calls Tryz.prog 97 #[.agg #[.int .u64 x.a0, .int .u64 x.a1, .int .u64 x.a2, .int .u64 x.a3, .int .u64 x.a4, .int .u64 x.a5, .bool x.b3, .bool x.b5], .agg #[.int .i64 n, .int .i64 y, .int .i64 m, .int .i64 d, .int .i64 k]] W fun e W' => e = .returned (.bool b) ∧ ED w A B x n y m d k W' := by
  have e : Mat.mt x.a4 x.a3 x.a5 x.b3 x.b5 m d k = b := by
    rw [← hb]
    apply Bool.eq_iff_iff.2
    rw [onB_iff, ← h.hn]
    unfold Exp.Ex.On
    rw [Mat.on_iff h.v, h.hn, h.hk]
    exact Iff.rfl
  exact (rmatches_any x hx n y m d k W).mono fun _ _ ⟨h1, h2⟩ => ⟨by rw [h1, e], h.next h2⟩
/-- the next day -/
theorem ED.up {w W : World} {A B : Nat} {x : Exp.Ex} {n y : Int} {m d k : Nat} (h : ED w A B x n y m d k W) (hl : n < 2932896) :
    Calls Tryz.prog 121 #[.agg #[.int .i64 n, .int .i64 y, .int .i64 m, .int .i64 d, .int .i64 k], .bool false] W fun e W' => ∃ (y' : Int) (m' d' k' : Nat), e = .returned (.agg #[.int .i64 (n + 1), .int .i64 y', .int .i64 m', .int .i64 d', .int .i64 k']) ∧ Civ.Vld y' m' d' ∧ Civ.num y' m' d' = n + 1 ∧ (n + 1 + 4) % 7 = k' ∧ ED w A B x n y m d k W' :=
  (ron_up n y m d k h.v h.hn h.hk.symm W).mono fun e W' ⟨r, h1, ⟨y', m', d', k', h2, h3⟩, h4⟩ => by
    have r0 := Civ.num_range h.v
    rw [h.hn] at r0
    obtain ⟨v, hn, hk⟩ := h3 (by omega) (by omega)
    obtain ⟨m', rfl⟩ := Int.eq_ofNat_of_zero_le (show 0 ≤ m' by have := v.2.2.1; omega)
    obtain ⟨d', rfl⟩ := Int.eq_ofNat_of_zero_le (show 0 ≤ d' by have := v.2.2.2.2.1; omega)
    obtain ⟨k', rfl⟩ := Int.eq_ofNat_of_zero_le (show 0 ≤ k' by omega)
    exact ⟨y', m', d', k', by rw [h1, h2], v, hn, hk.symm, h.next h4⟩
end Go.Proofs.YtljackjcgfaanaaGreatDoor
/- Contracts of the document's program of chapter match: from (the first time from one on). -/
namespace Go.Proofs.YtljackjcgfaanaaGreatDoor
open Go.ChangeShapes Go.RowKit Go.Shelf

/-- an expression in box A and a day in box B, in range or not -/
structure ER (w : World) (A B : Nat) (x : Exp.Ex) (n y m d k : Int) (W : World) : Prop where
  below : Below w.heap.size w W
  ex : Row W A 24 (exL x)
  dy : Row W B 110 (dL n y m d k)
  ne : A ≠ B
  b0 : w.heap.size ≤ B
/-- in range the day is the right one -/
def InD (n y m d k : Int) : Prop := 0 ≤ n → n ≤ 2932896 → Civ.Vld y m d ∧ Civ.num y m d = n ∧ k = (n + 4) % 7
theorem ER.cells {w W : World} {A B : Nat} {x : Exp.Ex} {n y m d k : Int} (h : ER w A B x n y m d k W) : (W.cell? ⟨A, 0, none⟩ = some (.int .u64 x.a0) ∧ W.cell? ⟨A, 1, none⟩ = some (.int .u64 x.a1) ∧ W.cell? ⟨A, 2, none⟩ = some (.int .u64 x.a2) ∧ W.cell? ⟨A, 3, none⟩ = some (.int .u64 x.a3) ∧ W.cell? ⟨A, 4, none⟩ = some (.int .u64 x.a4) ∧ W.cell? ⟨A, 5, none⟩ = some (.int .u64 x.a5) ∧ W.cell? ⟨A, 6, none⟩ = some (.bool x.b3) ∧ W.cell? ⟨A, 7, none⟩ = some (.bool x.b5)) ∧ W.cell? ⟨B, 0, none⟩ = some (.int .i64 n) ∧ W.cell? ⟨B, 1, none⟩ = some (.int .i64 y) ∧ W.cell? ⟨B, 2, none⟩ = some (.int .i64 m) ∧ W.cell? ⟨B, 3, none⟩ = some (.int .i64 d) ∧ W.cell? ⟨B, 4, none⟩ = some (.int .i64 k) :=
  ⟨⟨h.ex.cell 0, h.ex.cell 1, h.ex.cell 2, h.ex.cell 3, h.ex.cell 4, h.ex.cell 5, h.ex.cell 6, h.ex.cell 7⟩, h.dy.cell 0, h.dy.cell 1, h.dy.cell 2, h.dy.cell 3, h.dy.cell 4⟩
theorem ER.ed {w W : World} {A B : Nat} {x : Exp.Ex} {n y m d k : Int} (h : ER w A B x n y m d k W) (v : InD n y m d k) (h0 : 0 ≤ n) (h1 : n ≤ 2932896) : ∃ m' d' k' : Nat, m = m' ∧ d = d' ∧ k = k' ∧ ED w A B x n y m' d' k' W := by
  obtain ⟨v', hn, hk⟩ := v h0 h1
  clear v
  obtain ⟨m', rfl⟩ := Int.eq_ofNat_of_zero_le (show 0 ≤ m by have := v'.2.2.1; omega)
  obtain ⟨d', rfl⟩ := Int.eq_ofNat_of_zero_le (show 0 ≤ d by have := v'.2.2.2.2.1; omega)
  obtain ⟨k', rfl⟩ := Int.eq_ofNat_of_zero_le (show 0 ≤ k by omega)
  exact ⟨m', d', k', rfl, rfl, rfl, h.below, h.ex, h.dy, h.ne, h.b0, v', hn, hk.symm⟩
theorem ED.er {w W : World} {A B : Nat} {x : Exp.Ex} {n y : Int} {m d k : Nat} (h : ED w A B x n y m d k W) : ER w A B x n y m d k W := ⟨h.below, h.ex, h.dy, h.ne, h.b0⟩
/-- another day is stored -/
theorem ED.store {w W : World} {A B : Nat} {x : Exp.Ex} {n y : Int} {m d k : Nat} (h : ED w A B x n y m d k W) (n' y' m' d' k' : Int) :
    ER w A B x n' y' m' d' k' (((((W.setCell ⟨B, 0, none⟩ (.int .i64 n')).setCell ⟨B, 1, none⟩ (.int .i64 y')).setCell ⟨B, 2, none⟩ (.int .i64 m')).setCell ⟨B, 3, none⟩ (.int .i64 d')).setCell ⟨B, 4, none⟩ (.int .i64 k')) :=
  ⟨((((h.below.setCell (p := ⟨B, 0, none⟩) h.b0 _).setCell (p := ⟨B, 1, none⟩) h.b0 _).setCell (p := ⟨B, 2, none⟩) h.b0 _).setCell (p := ⟨B, 3, none⟩) h.b0 _).setCell (p := ⟨B, 4, none⟩) h.b0 _,
   ((((h.ex.other ⟨B, 0, none⟩ _ h.ne).other ⟨B, 1, none⟩ _ h.ne).other ⟨B, 2, none⟩ _ h.ne).other ⟨B, 3, none⟩ _ h.ne).other ⟨B, 4, none⟩ _ h.ne,
   ((((h.dy.set 0 (.int .i64 n')).set 1 (.int .i64 y')).set 2 (.int .i64 m')).set 3 (.int .i64 d')).set 4 (.int .i64 k'),
   h.ne, h.b0⟩
theorem ED.step {w W : World} {A B : Nat} {x : Exp.Ex} {n y : Int} {m d k : Nat} (h : ED w A B x n y m d k W) :
    Calls Tryz.prog 121 #[.agg #[.int .i64 n, .int .i64 y, .int .i64 m, .int .i64 d, .int .i64 k], .bool false] W fun e W' => ∃ y' m' d' k' : Int, e = .returned (.agg #[.int .i64 (n + 1), .int .i64 y', .int .i64 m', .int .i64 d', .int .i64 k']) ∧ Hid (InD (n + 1) y' m' d' k') ∧ ED w A B x n y m d k W' :=
  (ron_up n y m d k h.v h.hn h.hk.symm W).mono fun e W' ⟨r, h1, ⟨y', m', d', k', h2, h3⟩, h4⟩ => ⟨y', m', d', k', by rw [h1, h2], Lib.hid h3, h.next h4⟩
theorem ED.first {w W : World} {A B : Nat} {x : Exp.Ex} {n y : Int} {m d k : Nat} (h : ED w A B x n y m d k W) (hx : x.Bd) (a : Int) (r : Option Int) (h0 : 0 ≤ a) (h1 : a < 86400) (hr : Mat.Least (Mat.Ck x.a2 x.a1 x.a0) a 86399 r) :
    Calls Tryz.prog 124 #[.agg #[.int .u64 x.a0, .int .u64 x.a1, .int .u64 x.a2, .int .u64 x.a3, .int .u64 x.a4, .int .u64 x.a5, .bool x.b3, .bool x.b5], .int .i64 a] W fun e W' => e = .returned (.int .i64 (r.getD (-1))) ∧ ED w A B x n y m d k W' :=
  (rfirst_any x hx a r W h0 h1 hr).mono fun _ _ ⟨q1, q2⟩ => ⟨q1, h.next q2⟩
/-- no matched local second in 2925 days from a second's day on: none at all -/
theorem no_more {x : Exp.Ex} {L N : Int} (hL : 0 ≤ L) (hN : L / 86400 = N) (h : ∀ s, L ≤ s → s < 86400 * (N + 2925) → ¬ x.Lm s) : ∀ s, L ≤ s → ¬ x.Lm s := by
  intro s hs q
  by_cases c : s < 86400 * (N + 2925)
  · exact h s hs c q
  · have r := lm_in q
    obtain ⟨o, k⟩ := lm_iff.1 q
    obtain ⟨n1, a, b, c1, d⟩ := Mat.near (n := N + 1) (n0 := s / 86400) (by omega) (by omega) (by omega) o
    have hm : x.Lm (86400 * n1 + s % 86400) := lm_iff.2 ⟨by rw [show (86400 * n1 + s % 86400) / 86400 = n1 by omega]; exact d, by rw [show (86400 * n1 + s % 86400) % 86400 = s % 86400 by omega]; exact k⟩
    exact h _ (by omega) (by omega) hm
theorem from_none {x : Exp.Ex} {z t L E sh : Int} {r : Option Int} (hr : Mat.Least (fun s => x.Lm (s + 60 * z)) t 253402300799 r) (hs : z * 60 = sh) (hL : max (t + sh) 0 = L) (hE : min 253402300799 (253402300799 + sh) = E) (no : ∀ s, L ≤ s → s ≤ E → ¬ x.Lm s) : r = none :=
  hr.uniq (fun y h1 h2 q => by have := lm_in q; exact no _ (by omega) (by omega) q)
theorem from_some {x : Exp.Ex} {z t L E sh u : Int} {r : Option Int} (hr : Mat.Least (fun s => x.Lm (s + 60 * z)) t 253402300799 r) (hs : z * 60 = sh) (hL : max (t + sh) 0 = L) (hE : min 253402300799 (253402300799 + sh) = E) (hu : x.Lm u) (h1 : L ≤ u) (h2 : u ≤ E) (no : ∀ s, L ≤ s → s < u → ¬ x.Lm s) : r = some (u - sh) :=
  hr.uniq ⟨by omega, by omega, by show x.Lm (u - sh + 60 * z); rwa [show u - sh + 60 * z = u by omega], fun y y1 y2 q => by have := lm_in q; exact no _ (by omega) (by omega) q⟩
/-- a day that does not match, or has no matched second from one on -/
theorem day_none {x : Exp.Ex} {L n a : Int} (h : ∀ s, L ≤ s → s < 86400 * n + a → ¬ x.Lm s) (c : x.onB n = false ∨ ∃ b, 0 ≤ b ∧ b ≤ a ∧ Mat.Least (Mat.Ck x.a2 x.a1 x.a0) b 86399 none) (h0 : 0 ≤ a) : ∀ s, L ≤ s → s < 86400 * (n + 1) + 0 → ¬ x.Lm s := by
  intro s s1 s2 q
  by_cases c1 : s < 86400 * n + a
  · exact h s s1 c1 q
  · obtain ⟨o, k⟩ := lm_iff.1 q
    have e : s / 86400 = n := by omega
    rcases c with c | ⟨b, b0, b1, c⟩
    · rw [e] at o; exact onB_no.1 c o
    · exact c (s % 86400) (by omega) (by omega) k
theorem day_some {x : Exp.Ex} {L n a c : Int} (h : ∀ s, L ≤ s → s < 86400 * n + a → ¬ x.Lm s) (hr : Mat.Least (Mat.Ck x.a2 x.a1 x.a0) a 86399 (some c)) (on : x.On n) (h0 : 0 ≤ a) : x.Lm (86400 * n + c) ∧ (∀ s, L ≤ s → s < 86400 * n + c → ¬ x.Lm s) ∧ a ≤ c ∧ c ≤ 86399 := by
  obtain ⟨r1, r2, r3, r4⟩ := hr
  refine ⟨lm_iff.2 ⟨by rw [show (86400 * n + c) / 86400 = n by omega]; exact on, by rw [show (86400 * n + c) % 86400 = c by omega]; exact r3⟩, fun s s1 s2 q => ?_, r1, r2⟩
  by_cases c1 : s < 86400 * n + a
  · exact h s s1 c1 q
  · exact r4 (s % 86400) (by omega) (by omega) (lm_iff.1 q).2
/-- how far the loop is: day n, from its second a on -/
structure FI (x : Exp.Ex) (L N i n a y m d k : Int) : Prop where
  hn : n = N + i
  a0 : 0 ≤ a
  a1 : a < 86400
  la : L ≤ 86400 * n + a
  no : ∀ s, L ≤ s → s < 86400 * n + a → ¬ x.Lm s
  v : InD n y m d k
set_option maxRecDepth 100000 in
set_option maxHeartbeats 8000000 in
theorem rfrom_any (x : Exp.Ex) (hx : x.Bd) (z t : Int) (hz0 : -840 ≤ z) (hz1 : z ≤ 840) (t0 : 0 ≤ t) (t1 : t ≤ 253402300800) (r : Option Int) (hr : Mat.Least (fun s => x.Lm (s + 60 * z)) t 253402300799 r) (w : World) :
    Calls Tryz.prog 100 #[.agg #[.int .u64 x.a0, .int .u64 x.a1, .int .u64 x.a2, .int .u64 x.a3, .int .u64 x.a4, .int .u64 x.a5, .bool x.b3, .bool x.b5], .int .i64 z, .int .i64 t] w fun e W' => e = .returned (.int .i64 (r.getD (-1))) ∧ Below w.heap.size w W' := by
  have HX := Lib.hid hx
  have HB := Lib.hid ((Below.refl _ w).alloc (Nat.le_refl _) (.cells #[.int .u64 x.a0, .int .u64 x.a1, .int .u64 x.a2, .int .u64 x.a3, .int .u64 x.a4, .int .u64 x.a5, .bool x.b3, .bool x.b5] 24))
  have R0 := Lib.hid (Row.new w (exL x) 24)
  obtain ⟨sh, hsh⟩ : ∃ sh, z * 60 = sh := ⟨_, rfl⟩
  obtain ⟨L, hL⟩ : ∃ L, max (t + sh) 0 = L := ⟨_, rfl⟩
  obtain ⟨E, hE⟩ : ∃ E, min 253402300799 (253402300799 + sh) = E := ⟨_, rfl⟩
  have w1 : IntKind.i64.wrap (z * 60) = sh := by rw [IntKind.wrap_i64]; omega
  have w2 : IntKind.i64.wrap (t + sh) = t + sh := by rw [IntKind.wrap_i64]; omega
  have w3 : IntKind.i64.wrap (253402300799 + sh) = 253402300799 + sh := by rw [IntKind.wrap_i64]; omega
  have NONE := Lib.hid (fun no : (∀ s, L ≤ s → s ≤ E → ¬ x.Lm s) => from_none hr hsh hL hE no)
  have SOME := Lib.hid (fun (u : Int) (hu : x.Lm u) (h1 : L ≤ u) (h2 : u ≤ E) (no : ∀ s, L ≤ s → s < u → ¬ x.Lm s) => from_some hr hsh hL hE hu h1 h2 no)
  have l0 : 0 ≤ L := by omega
  have e0 : E ≤ 253402300799 := by omega
  have e1 : 0 ≤ E := by omega
  have l1 : L ≤ 253402400000 := by omega
  have s0 : -50400 ≤ sh ∧ sh ≤ 50400 := by omega
  by_cases c : E < L
  · have tc : decide (E < L) = true := decide_eq_true c
    have RN := Lib.hid (NONE.out (fun s s1 s2 => absurd s1 (by omega)))
    clear hx hr hz0 hz1 t0 t1 hsh l0 e0 e1 l1 s0 c
    go_enter Tryz.func100, Tryz.ntmps100
    go_wp2_with fail
    go_ret
    exact ⟨by rw [RN.out]; rfl, HB.out⟩
  · have tc : decide (E < L) = false := decide_eq_false c
    obtain ⟨N, hN⟩ : ∃ N, L / 86400 = N := ⟨_, rfl⟩
    obtain ⟨a, ha⟩ : ∃ a, L % 86400 = a := ⟨_, rfl⟩
    have w4 : IntKind.i64.wrap (L.tdiv 86400) = N := by rw [Int.tdiv_eq_ediv_of_nonneg l0, IntKind.wrap_i64]; omega
    have w5 : L.tmod 86400 = a := by rw [Int.tmod_eq_emod_of_nonneg l0]; exact ha
    have LN := Lib.hid (show 86400 * N + a = L ∧ 0 ≤ a ∧ a < 86400 ∧ 0 ≤ N ∧ N ≤ 2932896 by omega)
    have MORE := Lib.hid (fun h => no_more (x := x) l0 hN h)
    obtain ⟨y0, m0, d0, k0, v0, hn0, hk0, _⟩ := day_ex x N LN.out.2.2.2.1 LN.out.2.2.2.2
    have DA := Lib.hid (fun w0 : World => rdate_any y0 m0 d0 N w0 v0 hn0)
    rw [hk0] at DA
    have V0 := Lib.hid (And.intro v0 (And.intro hn0 hk0))
    have EB := Lib.hid (And.intro e0 (And.intro e1 s0))
    clear hx hr hz0 hz1 t0 t1 hsh l0 l1 c hN ha v0 hn0 hk0 e0 e1 s0
    go_enter Tryz.func100, Tryz.ntmps100
    go_wp2_with fail
    refine (DA.out _).mono ?_
    rintro e V ⟨rfl, hb⟩
    obtain ⟨A, hA⟩ : ∃ A, w.heap.size = A := ⟨_, rfl⟩
    obtain ⟨B, hB⟩ : ∃ B, V.heap.size = B := ⟨_, rfl⟩
    have hl := (R0.out.below hb).lt
    have E0 : ER w A B x N y0 m0 d0 k0 (V.alloc (.cells #[.int .i64 N, .int .i64 y0, .int .i64 m0, .int .i64 d0, .int .i64 k0] 110)) :=
      ⟨(HB.out.trans (hb.mono HB.out.size)).alloc (by have := HB.out.size; have := hb.size; omega) _, by rw [← hA]; exact (R0.out.below hb).alloc _, by rw [← hB]; exact Row.new V _ _, by omega, by have := HB.out.size; have := hb.size; omega⟩
    have E0 := Lib.hid E0
    clear hb hl hL hE w1 w2 w3 w4
    go_wp2_with fail
    have FI0 : Hid (FI x L N (0 : Nat) N a y0 m0 d0 k0) := Lib.hid ⟨by omega, LN.out.2.1, LN.out.2.2.1, by have := LN.out.1; omega, fun s s1 s2 => absurd s1 (by have := LN.out.1; omega), fun _ _ => ⟨V0.out.1, V0.out.2.1, V0.out.2.2.symm⟩⟩
    go_loopw [11, 12] (fun av iv wr => ∃ (i : Nat) (a' n y m d k : Int), i ≤ 2925 ∧ iv = .int .i64 i ∧ av = .int .i64 a' ∧ Hid (FI x L N i n a' y m d k) ∧ Hid (ER w A B x n y m d k wr)) (fun _ iv _ => 2926 - (intOf iv).toNat)
    case atStart => exact ⟨0, a, N, y0, m0, d0, k0, by omega, rfl, rfl, FI0, E0⟩
    case round =>
      obtain ⟨i, a', n, y, m, d, k, hi, rfl, rfl, F, Q⟩ := hrel
      obtain ⟨⟨c0, c1, c2, c3, c4, c5, c6, c7⟩, g0, g1, g2, g3, g4⟩ := Q.out.cells
      have nb : 0 ≤ n ∧ n ≤ 2935821 := by have := F.out.hn; have := LN.out; omega
      have wn : IntKind.i64.wrap (n * 86400) = n * 86400 := by rw [IntKind.wrap_i64]; omega
      have wi : IntKind.i64.wrap ((i : Int) + 1) = (i : Int) + 1 := by rw [IntKind.wrap_i64]; omega
      by_cases hlt : i ≤ 2924
      · have t1 : decide ((i : Int) ≤ 2924) = true := by rw [decide_eq_true_iff]; omega
        by_cases hle : n * 86400 ≤ E
        · have t2 : decide (n * 86400 ≤ E) = true := decide_eq_true hle
          have hn1 : n ≤ 2932896 := by have := EB.out.1; omega
          have NL := Lib.hid (And.intro nb.1 hn1)
          have eb := EB.out
          obtain ⟨m, d, k, rfl, rfl, rfl, q⟩ := Q.out.ed F.out.v nb.1 hn1
          have Q := Lib.hid q
          clear q nb hle
          cases hon : x.onB n with
          | false =>
            have NX := Lib.hid (day_none F.out.no (.inl hon) F.out.a0)
            have MT := Lib.hid (fun W (q : ED w A B x n y m d k W) => q.mt HX.out false hon)
            have UP := Lib.hid (fun W (q : ED w A B x n y m d k W) => q.step)
            clear hon eb hn1
            go_wp2_with fail
            refine (MT.out _ Q.out).mono ?_
            rintro e' w3 ⟨rfl, q⟩
            obtain ⟨⟨c0, c1, c2, c3, c4, c5, c6, c7⟩, g0, g1, g2, g3, g4⟩ := q.cells
            have Q := Lib.hid q
            clear q
            go_wp2_with fail
            refine (UP.out _ Q.out).mono ?_
            rintro e' w4 ⟨y', m', d', k', rfl, v', q⟩
            obtain ⟨⟨c0, c1, c2, c3, c4, c5, c6, c7⟩, g0, g1, g2, g3, g4⟩ := q.cells
            have fr := fun k => q.dy.free k
            have Q := Lib.hid (q.store (n + 1) y' m' d' k')
            clear q
            go_wp2_with fail
            go_roundw
            case rel => exact ⟨i + 1, 0, n + 1, y', m', d', k', by omega, by go_num, rfl, Lib.hid ⟨by have := F.out.hn; omega, by omega, by omega, by have := F.out.la; have := F.out.a1; omega, NX.out, v'.out⟩, Q⟩
            case measure => simp [intOf] <;> omega
          | true =>
            obtain ⟨r', hr'⟩ := Mat.least_ex (Mat.Ck x.a2 x.a1 x.a0) a' 86399
            have MT := Lib.hid (fun W (q : ED w A B x n y m d k W) => q.mt HX.out true hon)
            cases r' with
            | none =>
              have NX := Lib.hid (day_none F.out.no (.inr ⟨a', F.out.a0, Int.le_refl _, hr'⟩) F.out.a0)
              have FS := Lib.hid (fun W (q : ED w A B x n y m d k W) => q.first HX.out a' none F.out.a0 F.out.a1 hr')
              simp only [Option.getD_none] at FS
              have UP := Lib.hid (fun W (q : ED w A B x n y m d k W) => q.step)
              clear hon eb hn1 hr'
              go_wp2_with fail
              refine (MT.out _ Q.out).mono ?_
              rintro e' w3 ⟨rfl, q⟩
              obtain ⟨⟨c0, c1, c2, c3, c4, c5, c6, c7⟩, g0, g1, g2, g3, g4⟩ := q.cells
              have Q := Lib.hid q
              clear q
              go_wp2_with fail
              refine (FS.out _ Q.out).mono ?_
              rintro e' w5 ⟨rfl, q⟩
              obtain ⟨⟨c0, c1, c2, c3, c4, c5, c6, c7⟩, g0, g1, g2, g3, g4⟩ := q.cells
              have Q := Lib.hid q
              clear q
              go_wp2_with fail
              refine (UP.out _ Q.out).mono ?_
              rintro e' w4 ⟨y', m', d', k', rfl, v', q⟩
              obtain ⟨⟨c0, c1, c2, c3, c4, c5, c6, c7⟩, g0, g1, g2, g3, g4⟩ := q.cells
              have fr := fun k => q.dy.free k
              have Q := Lib.hid (q.store (n + 1) y' m' d' k')
              clear q
              go_wp2_with fail
              go_roundw
              case rel => exact ⟨i + 1, 0, n + 1, y', m', d', k', by omega, by go_num, rfl, Lib.hid ⟨by have := F.out.hn; omega, by omega, by omega, by have := F.out.la; have := F.out.a1; omega, NX.out, v'.out⟩, Q⟩
              case measure => simp [intOf] <;> omega
            | some c =>
              have FS := Lib.hid (fun W (q : ED w A B x n y m d k W) => q.first HX.out a' (some c) F.out.a0 F.out.a1 hr')
              simp only [Option.getD_some] at FS
              have DS := day_some F.out.no hr' (onB_iff.1 hon) F.out.a0
              have t3 : decide (0 ≤ c) = true := decide_eq_true (by have := F.out.a0; omega)
              have nl := NL.out
              have fa := F.out.a0
              have w6 : IntKind.i64.wrap (n * 86400 + c) = n * 86400 + c := by rw [IntKind.wrap_i64]; omega
              have w7 : IntKind.i64.wrap (n * 86400 + c - sh) = n * 86400 + c - sh := by rw [IntKind.wrap_i64]; omega
              by_cases cE : E < n * 86400 + c
              · have t4 : decide (E < n * 86400 + c) = true := decide_eq_true cE
                have RN := Lib.hid (NONE.out (fun s s1 s2 => DS.2.1 s s1 (by omega)))
                clear hon eb hn1 hr' DS cE nl fa
                go_wp2_with fail
                refine (MT.out _ Q.out).mono ?_
                rintro e' w3 ⟨rfl, q⟩
                obtain ⟨⟨c0, c1, c2, c3, c4, c5, c6, c7⟩, g0, g1, g2, g3, g4⟩ := q.cells
                have Q := Lib.hid q
                clear q
                go_wp2_with fail
                refine (FS.out _ Q.out).mono ?_
                rintro e' w5 ⟨rfl, q⟩
                obtain ⟨⟨c0, c1, c2, c3, c4, c5, c6, c7⟩, g0, g1, g2, g3, g4⟩ := q.cells
                have Q := Lib.hid q
                clear q
                go_wp2_with fail
                go_ret
                exact ⟨by rw [RN.out]; rfl, Q.out.below⟩
              · have t4 : decide (E < n * 86400 + c) = false := decide_eq_false cE
                have RN := Lib.hid (SOME.out (n * 86400 + c) (by rw [show n * 86400 + c = 86400 * n + c by omega]; exact DS.1) (by have := F.out.la; omega) (by omega) (fun s s1 s2 => DS.2.1 s s1 (by omega)))
                clear hon eb hn1 hr' DS cE nl fa
                go_wp2_with fail
                refine (MT.out _ Q.out).mono ?_
                rintro e' w3 ⟨rfl, q⟩
                obtain ⟨⟨c0, c1, c2, c3, c4, c5, c6, c7⟩, g0, g1, g2, g3, g4⟩ := q.cells
                have Q := Lib.hid q
                clear q
                go_wp2_with fail
                refine (FS.out _ Q.out).mono ?_
                rintro e' w5 ⟨rfl, q⟩
                obtain ⟨⟨c0, c1, c2, c3, c4, c5, c6, c7⟩, g0, g1, g2, g3, g4⟩ := q.cells
                have Q := Lib.hid q
                clear q
                go_wp2_with fail
                go_ret
                exact ⟨by rw [RN.out]; rfl, Q.out.below⟩
        · have t2 : decide (n * 86400 ≤ E) = false := decide_eq_false hle
          have RN := Lib.hid (NONE.out (fun s s1 s2 => F.out.no s s1 (by have := F.out.a0; omega)))
          clear nb hle
          go_wp2_with fail
          go_ret
          exact ⟨by rw [RN.out]; rfl, Q.out.below⟩
      · have t1 : decide ((i : Int) ≤ 2924) = false := by rw [decide_eq_false_iff_not]; omega
        have RN := Lib.hid (NONE.out (fun s s1 s2 => MORE.out (fun s s1 s2 => F.out.no s s1 (by have := F.out.a0; have := F.out.hn; omega)) s s1))
        clear nb
        go_wp2_with fail
        go_ret
        exact ⟨by rw [RN.out]; rfl, Q.out.below⟩
end Go.Proofs.YtljackjcgfaanaaGreatDoor
/- Contract of the document's program of chapter match: List. -/
namespace Go.Proofs.YtljackjcgfaanaaGreatDoor
open Go.ChangeShapes Go.RowKit Go.Shelf

/-- what is still to come: the next time is r -/
def RestOk (P : Int → Prop) (b : Int) (all pre : List Int) (M : Nat) (r : Option Int) : Prop := ∃ a' rest, 0 ≤ a' ∧ Mat.Least P a' 253402300799 r ∧ all = pre ++ rest ∧ Tms P b (M - pre.length) a' rest ∧ pre.length ≤ M
theorem tms_none {P : Int → Prop} {b : Int} : ∀ {n : Nat} {a : Int} {l : List Int}, Tms P b n a l → (∀ y, a ≤ y → y ≤ b → ¬ P y) → l = []
  | 0, _, _, h, _ => h
  | n + 1, a, l, h, no => by
    obtain ⟨r, h1, h2⟩ := h
    have e : r = none := h1.uniq no
    subst e
    exact h2
theorem rest_none {P : Int → Prop} {b : Int} {all pre : List Int} {M : Nat} (h : RestOk P b all pre M none) (hb : b ≤ 253402300799) : all = pre := by
  obtain ⟨a', rest, _, h1, h2, h3, _⟩ := h
  rw [h2, tms_none h3 (fun y y1 y2 => h1 y y1 (by omega)), List.append_nil]
theorem rest_far {P : Int → Prop} {b t : Int} {all pre : List Int} {M : Nat} (h : RestOk P b all pre M (some t)) (hb : b < t) : all = pre := by
  obtain ⟨a', rest, _, h1, h2, h3, _⟩ := h
  rw [h2, tms_none h3 (fun y y1 y2 => h1.2.2.2 y y1 (by omega)), List.append_nil]
theorem rest_full {P : Int → Prop} {b : Int} {all pre : List Int} {M : Nat} {r : Option Int} (h : RestOk P b all pre M r) (hb : M ≤ pre.length) : all = pre := by
  obtain ⟨a', rest, _, h1, h2, h3, _⟩ := h
  rw [show M - pre.length = 0 by omega] at h3
  have h3 : rest = [] := h3
  rw [h2, h3, List.append_nil]
theorem rest_in {P : Int → Prop} {b t : Int} {all pre : List Int} {M : Nat} (h : RestOk P b all pre M (some t)) : 0 ≤ t ∧ t ≤ 253402300799 := by
  obtain ⟨a', rest, a0, h1, _⟩ := h
  have := h1.1
  have := h1.2.1
  omega
theorem rest_some {P : Int → Prop} {b t : Int} {all pre : List Int} {M : Nat} (h : RestOk P b all pre M (some t)) (hb : t ≤ b) (hM : pre.length < M) {r' : Option Int} (hr : Mat.Least P (t + 1) 253402300799 r') : RestOk P b all (pre ++ [t]) M r' := by
  have b0 := rest_in h
  obtain ⟨a', rest, a0, h1, h2, h3, _⟩ := h
  obtain ⟨k, hk⟩ : ∃ k, M - pre.length = k + 1 := ⟨M - pre.length - 1, by omega⟩
  rw [hk] at h3
  obtain ⟨r2, g1, g2⟩ := h3
  have e : r2 = some t := g1.uniq ⟨h1.1, hb, h1.2.2.1, h1.2.2.2⟩
  subst e
  obtain ⟨l', rfl, g3⟩ := g2
  refine ⟨t + 1, l', by omega, hr, by rw [h2]; simp, ?_, by simp; omega⟩
  have e2 : M - (pre ++ [t]).length = k := by simp; omega
  rw [e2]
  exact g3
end Go.Proofs.YtljackjcgfaanaaGreatDoor
/- Contracts of the document's program of chapter match: Next. -/
namespace Go.Proofs.YtljackjcgfaanaaGreatDoor
open Go.ChangeShapes Go.RowKit Go.Shelf

set_option maxRecDepth 100000 in
set_option maxHeartbeats 4000000 in
theorem rnext_any (x : Exp.Ex) (hx : x.Bd) (z t : Int) (w : World) (L : LayM w) :
    Calls Tryz.prog 62 #[.agg #[.int .u64 x.a0, .int .u64 x.a1, .int .u64 x.a2, .int .u64 x.a3, .int .u64 x.a4, .int .u64 x.a5, .bool x.b3, .bool x.b5], .int .i64 z, .int .i64 t] w fun e W' => e = .returned (.tuple #[.int .i64 ((nextO x z t).getD 0), .bool (nextO x z t).isSome, .int .i64 (errC x z [t])]) ∧ Below w.heap.size w W' := by
  have CK := Lib.hid (fun w0 R => rcheck_any x hx z (w.heap.size + 1) [t] (by simp) w0 R)
  have RW := Lib.hid (one_row x t w)
  have LL := Lib.hid L
  by_cases h : errC x z [t] = 0
  · obtain ⟨hk, hz, ht⟩ := errC_one h
    have FR := Lib.hid (fun w0 : World => rfrom_any x hx z (t + 1) hz.1 hz.2 (by omega) (by omega) (nextO x z t) (nextO_is h) w0)
    have w1 : IntKind.i64.wrap (t + 1) = t + 1 := by rw [IntKind.wrap_i64]; omega
    have UB : ∀ u, nextO x z t = some u → 0 ≤ u := fun u e => by
      have q := nextO_is h
      rw [e] at q
      have := q.1
      omega
    obtain ⟨r, hr⟩ : ∃ r, nextO x z t = r := ⟨_, rfl⟩
    rw [h] at CK ⊢
    rw [hr] at FR UB ⊢
    clear h hk hz ht L hr hx
    cases r with
    | none =>
      simp only [Option.getD_none, Option.isSome_none] at FR ⊢
      clear UB
      go_enter Tryz.func62, Tryz.ntmps62
      go_wp2_with fail
      refine (CK.out _ RW.out).mono ?_
      rintro e V ⟨rfl, hb⟩
      have Q := Lib.hid (BC.one LL.out hb)
      obtain ⟨y0, y1, y2, y3, y4, y5, y6, y7⟩ := Q.out.cells
      clear hb
      go_wp2_with fail
      refine (FR.out _).mono ?_
      rintro e V2 ⟨rfl, hb⟩
      have Q := Lib.hid (Q.out.next hb)
      clear hb
      go_wp2_with fail
      go_ret3
      exact ⟨rfl, Q.out.be⟩
    | some u =>
      simp only [Option.getD_some, Option.isSome_some] at FR ⊢
      have u0 := UB u rfl
      have t1 : decide (u < 0) = false := by rw [decide_eq_false_iff_not]; omega
      clear UB u0
      go_enter Tryz.func62, Tryz.ntmps62
      go_wp2_with fail
      refine (CK.out _ RW.out).mono ?_
      rintro e V ⟨rfl, hb⟩
      have Q := Lib.hid (BC.one LL.out hb)
      obtain ⟨y0, y1, y2, y3, y4, y5, y6, y7⟩ := Q.out.cells
      clear hb
      go_wp2_with fail
      refine (FR.out _).mono ?_
      rintro e V2 ⟨rfl, hb⟩
      have Q := Lib.hid (Q.out.next hb)
      clear hb
      go_wp2_with fail
      go_ret3
      exact ⟨rfl, Q.out.be⟩
  · have DO : Hid (nextO x z t = none) := Lib.hid (by unfold nextO; rw [if_neg h])
    obtain ⟨E, hE⟩ : ∃ E, errC x z [t] = E := ⟨_, rfl⟩
    rw [hE] at h CK ⊢
    have t1 : (E != 0) = true := by rw [bne_iff_ne]; exact h
    clear h hE L hx
    go_enter Tryz.func62, Tryz.ntmps62
    go_wp2_with fail
    refine (CK.out _ RW.out).mono ?_
    rintro e V ⟨rfl, hb⟩
    have Q := Lib.hid (BC.one LL.out hb)
    clear hb
    go_wp2_with fail
    go_ret3
    exact ⟨by rw [DO.out]; rfl, Q.out.be⟩
end Go.Proofs.YtljackjcgfaanaaGreatDoor
/- Plain facts on the count of a span, day by day. -/
namespace Go.Proofs.YtljackjcgfaanaaGreatDoor
open Go.ChangeShapes Go.RowKit Go.Shelf

theorem cnt_head_yes {P : Int → Prop} {a b : Int} {n : Nat} (h : P a) (e : a + 1 = b) : cntN P a (n + 1) = cntN P b n + 1 := by
  have q := cnt_add P a 1 n
  rw [show (1 : Nat) + n = n + 1 by omega] at q
  have o : cntN P a 1 = 1 := by
    have := cnt_yes (P := P) (a := a) (n := 0) (by simpa using h)
    simpa [cntN] using this
  rw [q, o, show a + ((1 : Nat) : Int) = b by omega]
  omega
theorem cnt_head_no {P : Int → Prop} {a b : Int} {n : Nat} (h : ¬ P a) (e : a + 1 = b) : cntN P a (n + 1) = cntN P b n := by
  have q := cnt_add P a 1 n
  rw [show (1 : Nat) + n = n + 1 by omega] at q
  have o : cntN P a 1 = 0 := by
    have := cnt_no (P := P) (a := a) (n := 0) (by simpa using h)
    simpa [cntN] using this
  rw [q, o, show a + ((1 : Nat) : Int) = b by omega]
  omega
/-- how many of a span lie ahead of a day -/
noncomputable def upTo (x : Exp.Ex) (lo hi n : Int) : Nat := cntN x.Lm lo (min (86400 * n) (hi + 1) - lo).toNat
theorem upTo_first (x : Exp.Ex) {lo hi n : Int} (h : lo / 86400 = n) : upTo x lo hi n = 0 := by
  unfold upTo
  rw [show (min (86400 * n) (hi + 1) - lo).toNat = 0 by omega]
  rfl
theorem upTo_last (x : Exp.Ex) {lo hi n : Int} (h : hi < 86400 * n) : upTo x lo hi n = cntN x.Lm lo (hi - lo + 1).toNat := by
  unfold upTo
  rw [show (min (86400 * n) (hi + 1) - lo).toNat = (hi - lo + 1).toNat by omega]
theorem upTo_le (x : Exp.Ex) {lo hi n : Int} (h0 : 0 ≤ lo) (h1 : hi ≤ 253402300799) : upTo x lo hi n ≤ 253402300800 := by
  have := cnt_le x.Lm lo (min (86400 * n) (hi + 1) - lo).toNat
  unfold upTo
  omega
theorem upTo_no {x : Exp.Ex} {lo hi n : Int} (hl : lo ≤ hi) (hn : lo / 86400 ≤ n) (h1 : 86400 * n ≤ hi) (on : ¬ x.On n) : upTo x lo hi (n + 1) = upTo x lo hi n := by
  unfold upTo
  obtain ⟨P, hP⟩ : ∃ P, (min (86400 * n) (hi + 1) - lo).toNat = P := ⟨_, rfl⟩
  obtain ⟨R, hR⟩ : ∃ R, (min (86400 * (n + 1)) (hi + 1) - lo).toNat = P + R := ⟨(min (86400 * (n + 1)) (hi + 1) - lo).toNat - P, by omega⟩
  rw [hP, hR, cnt_add, cnt_zero (a := lo + (P : Int)), Nat.add_zero]
  intro k hk q
  have e : (lo + (P : Int) + (k : Nat)) / 86400 = n := by omega
  have := (lm_iff.1 q).1
  rw [e] at this
  exact on this
theorem upTo_yes {x : Exp.Ex} {lo hi n : Int} {p q : Nat} (hl : lo ≤ hi) (hn : lo / 86400 ≤ n) (h1 : 86400 * n ≤ hi) (hp : (p : Int) = max 0 (lo - 86400 * n)) (hq : (q : Int) = min 86400 (hi + 1 - 86400 * n)) (on : x.On n) :
    upTo x lo hi (n + 1) + cntN x.ck 0 p + cntN x.ck (q : Int) (86400 - q) = upTo x lo hi n + cntN x.ck 0 86400 := by
  have a := cnt_add x.ck 0 p (q - p)
  have b := cnt_add x.ck 0 q (86400 - q)
  rw [show p + (q - p) = q by omega, Int.zero_add] at a
  rw [show q + (86400 - q) = 86400 by omega, Int.zero_add] at b
  obtain ⟨P, hP⟩ : ∃ P, (min (86400 * n) (hi + 1) - lo).toNat = P := ⟨_, rfl⟩
  have hR : (min (86400 * (n + 1)) (hi + 1) - lo).toNat = P + (q - p) := by omega
  have d := cnt_add x.Lm lo P (q - p)
  have c : cntN x.Lm (lo + (P : Nat)) (q - p) = cntN x.ck (p : Int) (q - p) := cnt_congr fun k hk => by
    have e1 : (lo + (P : Nat) + (k : Nat)) / 86400 = n := by omega
    have e2 : (lo + (P : Nat) + (k : Nat)) % 86400 = (p : Int) + (k : Nat) := by omega
    rw [lm_iff, e1, e2]
    exact ⟨fun h => h.2, fun h => ⟨on, h⟩⟩
  unfold upTo
  rw [hP, hR]
  omega
end Go.Proofs.YtljackjcgfaanaaGreatDoor
/- Contract of the document's program of chapter match: Count. -/
namespace Go.Proofs.YtljackjcgfaanaaGreatDoor
open Go.ChangeShapes Go.RowKit Go.Shelf

/-- how many numbers a set has -/
def cn4 (S : Nat) : Int := (Bit.mem S).length
theorem BC.cn {w W : World} {x : Exp.Ex} (h : BC w x W) (S : Nat) (hS : S < 2 ^ 64) : Calls Tryz.prog 120 #[.int .u64 S] W fun e W' => e = .returned (.int .i64 (cn4 S)) ∧ BC w x W' :=
  (countR_any S hS W).mono fun _ _ ⟨h1, h2⟩ => ⟨h1, h.next h2⟩
/-- the day that lies at a pointer -/
def dayAt (v : Value) (W : World) : Nat := match v with
  | .pointer (some p) => (match W.cell? p with
    | some c => (intOf c).toNat
    | none => 0)
  | _ => 0
theorem dayAt_is {B : Nat} {n : Int} {W : World} (h : W.cell? ⟨B, 0, none⟩ = some (.int .i64 n)) : dayAt (.pointer (some ⟨B, 0, none⟩)) W = n.toNat := by
  simp only [dayAt, h, intOf]
/-- the day is copied into a box of its own -/
theorem ED.copy {w W : World} {A B : Nat} {x : Exp.Ex} {n y : Int} {m d k : Nat} (h : ED w A B x n y m d k W) : ED w A W.heap.size x n y m d k (W.alloc (.cells #[.int .i64 n, .int .i64 y, .int .i64 m, .int .i64 d, .int .i64 k] 110)) :=
  ⟨h.below.alloc h.below.size _, h.ex.alloc _, Row.new W _ _, by have := h.ex.lt; omega, h.below.size, h.v, h.hn, h.hk⟩
theorem ED.clock {w W : World} {A B : Nat} {x : Exp.Ex} {n y : Int} {m d k : Nat} (h : ED w A B x n y m d k W) (hx : x.Bd) (s : Int) (b : Bool) (h0 : 0 ≤ s) (h1 : s < 86400) (hb : Mat.clk x.a2 x.a1 x.a0 s = b) :
    Calls Tryz.prog 56 #[.agg #[.int .u64 x.a0, .int .u64 x.a1, .int .u64 x.a2, .int .u64 x.a3, .int .u64 x.a4, .int .u64 x.a5, .bool x.b3, .bool x.b5], .int .i64 s] W fun e W' => e = .returned (.bool b) ∧ ED w A B x n y m d k W' :=
  (rclock_any x hx s W h0 h1).mono fun _ _ ⟨q1, q2⟩ => ⟨by rw [q1, hb], h.next q2⟩
theorem ck_of {x : Exp.Ex} {s : Int} (h0 : 0 ≤ s) (h1 : s < 86400) (h : Mat.clk x.a2 x.a1 x.a0 s = true) : x.ck s := ⟨h0, h1, h⟩
theorem ck_not {x : Exp.Ex} {s : Int} (h : Mat.clk x.a2 x.a1 x.a0 s = false) : ¬ x.ck s := fun q => by
  have := q.2.2
  rw [h] at this
  cases this
/-- the state ahead of a day -/
structure CI (x : Exp.Ex) (lo hi n y m d k u : Int) : Prop where
  n0 : lo / 86400 ≤ n
  n1 : n ≤ 2932897
  v : InD n y m d k
  hu : u = upTo x lo hi n
set_option maxRecDepth 100000 in
set_option maxHeartbeats 16000000 in
theorem rcount_any (x : Exp.Ex) (hx : x.Bd) (z a b : Int) (w : World) (LL : LayM w) :
    Calls Tryz.prog 91 #[.agg #[.int .u64 x.a0, .int .u64 x.a1, .int .u64 x.a2, .int .u64 x.a3, .int .u64 x.a4, .int .u64 x.a5, .bool x.b3, .bool x.b5], .int .i64 z, .int .i64 a, .int .i64 b] w fun e W' => e = .returned (.tuple #[.int .i64 (if errC x z [a, b] = 0 then countN x z a b else 0 : Nat), .int .i64 (errC x z [a, b])]) ∧ Below w.heap.size w W' := by
  have CK := Lib.hid (fun w0 R => rcheck_any x hx z (w.heap.size + 1) [a, b] (by simp) w0 R)
  have RW := Lib.hid (two_row x a b w)
  have LL := Lib.hid LL
  by_cases h : errC x z [a, b] = 0
  · obtain ⟨hk, hz, ha, hb⟩ := errC_two h
    have hok := Exp.okB_iff.1 hk
    rw [if_pos h]
    obtain ⟨sh, hsh⟩ : ∃ sh, z * 60 = sh := ⟨_, rfl⟩
    have w1 : IntKind.i64.wrap (z * 60) = sh := by rw [IntKind.wrap_i64]; omega
    have w2 : IntKind.i64.wrap (a + sh) = a + sh := by rw [IntKind.wrap_i64]; omega
    have w3 : IntKind.i64.wrap (b + sh) = b + sh := by rw [IntKind.wrap_i64]; omega
    obtain ⟨lo, hlo⟩ : ∃ lo, max (a + sh) 0 = lo := ⟨_, rfl⟩
    obtain ⟨hi, hhi⟩ : ∃ hi, min (b + sh) 253402300799 = hi := ⟨_, rfl⟩
    have el : loc0 z a = lo := by unfold loc0; omega
    have eh : loc1 z b = hi := by unfold loc1; omega
    by_cases c : hi < lo
    · have tc : decide (hi < lo) = true := decide_eq_true c
      have DO := Lib.hid (countN_none (x := x) (z := z) (a := a) (b := b) (by rw [el, eh]; exact c))
      rw [h] at CK ⊢
      clear hx hk hz ha hb hok hsh el eh c h
      go_enter Tryz.func91, Tryz.ntmps91
      go_wp2_with fail
      refine (CK.out _ RW.out).mono ?_
      rintro e V ⟨rfl, hb⟩
      have Q := Lib.hid (BC.one LL.out hb)
      clear hb
      go_wp2_with fail
      go_ret2
      exact ⟨by rw [DO.out]; rfl, Q.out.be⟩
    · have tc : decide (hi < lo) = false := decide_eq_false c
      have DO := countN_loc (x := x) (z := z) (a := a) (b := b) (by rw [el, eh]; omega)
      rw [el, eh] at DO
      have HX := Lib.hid hx
      obtain ⟨N, hN⟩ : ∃ N, lo / 86400 = N := ⟨_, rfl⟩
      have l0 : 0 ≤ lo := by omega
      have h1 : hi ≤ 253402300799 := by omega
      have w4 : IntKind.i64.wrap (lo.tdiv 86400) = N := by rw [Int.tdiv_eq_ediv_of_nonneg l0, IntKind.wrap_i64]; omega
      have LN := Lib.hid (show 0 ≤ lo ∧ lo ≤ hi ∧ hi ≤ 253402300799 ∧ lo / 86400 = N by omega)
      obtain ⟨yy0, m0, d0, k0, v0, hn0, hk0, _⟩ := day_ex x N (by omega) (by omega)
      have DA := Lib.hid (fun w0 : World => rdate_any yy0 m0 d0 N w0 v0 hn0)
      rw [hk0] at DA
      have V0 := Lib.hid (And.intro v0 (And.intro hn0 hk0))
      have DO := Lib.hid DO
      have SB := secs_bd hok
      have CD := Lib.hid (cnt_day hok)
      obtain ⟨S, hS⟩ : ∃ S : Int, (x.secs : Int) = S := ⟨_, rfl⟩
      have SS := Lib.hid hS
      have sb : 0 ≤ S ∧ S ≤ 86400 := by omega
      have SB := Lib.hid sb
      obtain ⟨m1, hm1⟩ : ∃ m1, cn4 x.a2 * cn4 x.a1 = m1 := ⟨_, rfl⟩
      have LS := secs_le (Bit.mem x.a2).length (Bit.mem x.a1).length (Bit.mem x.a0).length (Bit.mem_len _) (Bit.mem_len _) (Bit.mem_len _)
      have e1 : m1 = (((Bit.mem x.a2).length * (Bit.mem x.a1).length : Nat) : Int) := by rw [← hm1]; unfold cn4; push_cast; rfl
      have w5 : IntKind.i64.wrap (cn4 x.a2 * cn4 x.a1) = m1 := by rw [hm1, e1, IntKind.wrap_i64]; omega
      have e2 : m1 * cn4 x.a0 = S := by
        rw [e1, ← hS]
        unfold cn4 Exp.Ex.secs
        rw [← Int.natCast_mul]
        congr 1
        rw [Nat.mul_comm, Nat.mul_comm (Bit.mem x.a2).length, Nat.mul_assoc]
      have w6 : IntKind.i64.wrap (m1 * cn4 x.a0) = S := by rw [e2, IntKind.wrap_i64]; omega
      have CN := Lib.hid (fun W (q : BC w x W) (T : Nat) (hT : T < 2 ^ 64) => q.cn T hT)
      have X2 := Lib.hid (show x.a2 < 2 ^ 64 from hx 2 (by decide))
      have X1 := Lib.hid (show x.a1 < 2 ^ 64 from hx 1 (by decide))
      have X0 := Lib.hid (show x.a0 < 2 ^ 64 from hx 0 (by decide))
      obtain ⟨TOT, hTOT⟩ : ∃ T, countN x z a b = T := ⟨_, rfl⟩
      rw [hTOT] at DO ⊢
      rw [h] at CK ⊢
      clear hx hk hz ha hb hok hsh el eh c h hN l0 h1 v0 hn0 hk0 hS sb hm1 LS e1 e2 hTOT
      go_enter Tryz.func91, Tryz.ntmps91
      go_wp2_with fail
      refine (CK.out _ RW.out).mono ?_
      rintro e V0' ⟨rfl, hb⟩
      have Q := Lib.hid (BC.one LL.out hb)
      obtain ⟨y0, y1, y2, y3, y4, y5, y6, y7⟩ := Q.out.cells
      clear hb
      go_wp2_with fail
      go_region_held3 (fun w' => w'.cell? ⟨w.heap.size, 0, none⟩ = some (.int .u64 x.a0) ∧ w'.cell? ⟨w.heap.size, 1, none⟩ = some (.int .u64 x.a1) ∧ w'.cell? ⟨w.heap.size, 2, none⟩ = some (.int .u64 x.a2) ∧ w'.cell? ⟨w.heap.size, 3, none⟩ = some (.int .u64 x.a3) ∧ w'.cell? ⟨w.heap.size, 4, none⟩ = some (.int .u64 x.a4) ∧ w'.cell? ⟨w.heap.size, 5, none⟩ = some (.int .u64 x.a5) ∧ w'.cell? ⟨w.heap.size, 6, none⟩ = some (.bool x.b3) ∧ w'.cell? ⟨w.heap.size, 7, none⟩ = some (.bool x.b5)) (go_keep)
        (first
          | (go_at_call 120; refine (CN.out _ (by first | exact Q.out | exact Q.out.drew) _ (by first | exact X2.out | exact X1.out | exact X0.out)).mono ?_; rintro e w20 ⟨rfl, q'⟩; have Q := Lib.hid q'; obtain ⟨y0, y1, y2, y3, y4, y5, y6, y7⟩ := q'.cells; clear q'))
      clear w2 w3 w5 w6
      go_wp2_with fail
      refine (DA.out _).mono ?_
      rintro e V ⟨rfl, hb⟩
      have QB2 := Lib.hid (Q.out.next hb)
      obtain ⟨A, hA⟩ : ∃ A, w.heap.size = A := ⟨_, rfl⟩
      obtain ⟨B, hB⟩ : ∃ B, V.heap.size = B := ⟨_, rfl⟩
      have hl := QB2.out.ex.lt
      have E0 : ER w A B x N yy0 m0 d0 k0 (V.alloc (.cells #[.int .i64 N, .int .i64 yy0, .int .i64 m0, .int .i64 d0, .int .i64 k0] 110)) :=
        ⟨QB2.out.be.alloc (by have := QB2.out.be.size; omega) _, by rw [← hA]; exact QB2.out.ex.alloc _, by rw [← hB]; exact Row.new V _ _, by omega, by have := QB2.out.be.size; omega⟩
      have E0 := Lib.hid E0
      have C0 : Hid (CI x lo hi N yy0 m0 d0 k0 0) := Lib.hid ⟨by have := LN.out; omega, by have := LN.out; omega, fun _ _ => ⟨V0.out.1, V0.out.2.1, V0.out.2.2.symm⟩, by rw [upTo_first x LN.out.2.2.2]; rfl⟩
      clear hb hl hlo hhi w1 w4 tc y0 y1 y2 y3 y4 y5 y6 y7 Q
      go_wp2_with fail
      go_loopw [14, 16] (fun sv pv wr => ∃ (B : Nat) (n y m d k u : Int), pv = .pointer (some ⟨B, 0, none⟩) ∧ sv = .int .i64 u ∧ Hid (CI x lo hi n y m d k u) ∧ Hid (ER w A B x n y m d k wr)) (fun _ pv wr => 2932898 - dayAt pv wr)
      case atStart => exact ⟨B, N, yy0, m0, d0, k0, 0, rfl, rfl, C0, E0⟩
      case round =>
        obtain ⟨B, n, y, m, d, k, u, rfl, rfl, I, Q⟩ := hrel
        obtain ⟨⟨c0, c1, c2, c3, c4, c5, c6, c7⟩, g0, g1, g2, g3, g4⟩ := Q.out.cells
        have nb : 0 ≤ n ∧ n ≤ 2932897 := by have := I.out.n0; have := I.out.n1; have := LN.out; omega
        have ub : 0 ≤ u ∧ u ≤ 253402300800 := by have := upTo_le x (n := n) LN.out.1 LN.out.2.2.1; have := I.out.hu; omega
        have wn : IntKind.i64.wrap (n * 86400) = n * 86400 := by rw [IntKind.wrap_i64]; omega
        have MS := Lib.hid (dayAt_is g0)
        by_cases hle : n * 86400 ≤ hi
        · have t1 : decide (n * 86400 ≤ hi) = true := decide_eq_true hle
          have ln := LN.out
          have hn1 : n ≤ 2932896 := by omega
          obtain ⟨m, d, k, rfl, rfl, rfl, q⟩ := Q.out.ed I.out.v nb.1 hn1
          have Q := Lib.hid q
          have NL := Lib.hid (show 0 ≤ n ∧ n ≤ 2932896 ∧ 86400 * n ≤ hi by omega)
          have UP := Lib.hid (fun B W (q : ED w A B x n y m d k W) => q.step)
          have UB := Lib.hid ub
          clear q hle hn1 ln nb ub
          cases hon : x.onB n with
          | false =>
            have NX := Lib.hid (upTo_no (x := x) LN.out.2.1 I.out.n0 NL.out.2.2 (onB_no.1 hon))
            have MT := Lib.hid (fun W (q : ED w A B x n y m d k W) => q.mt HX.out false hon)
            clear hon
            go_wp2_with fail
            refine (MT.out _ Q.out).mono ?_
            rintro e' w3 ⟨rfl, q⟩
            obtain ⟨⟨c0, c1, c2, c3, c4, c5, c6, c7⟩, g0, g1, g2, g3, g4⟩ := q.cells
            obtain ⟨B', hB'⟩ : ∃ B', w3.heap.size = B' := ⟨_, rfl⟩
            have q := q.copy
            rw [hB'] at q
            have Q := Lib.hid q
            clear q
            go_wp2_with fail
            refine (UP.out _ _ Q.out).mono ?_
            rintro e' w4 ⟨y', m', d', k', rfl, v', q⟩
            obtain ⟨⟨c0, c1, c2, c3, c4, c5, c6, c7⟩, g0, g1, g2, g3, g4⟩ := q.cells
            have fr := fun k => q.dy.free k
            have Q := Lib.hid (q.store (n + 1) y' m' d' k')
            clear q
            go_wp2_with fail
            go_roundw
            case rel => exact ⟨B', n + 1, y', m', d', k', u, rfl, rfl, Lib.hid ⟨by have := I.out.n0; omega, by have := NL.out; omega, v'.out, by rw [I.out.hu, NX.out]⟩, Q⟩
            case measure =>
              rw [MS.out, dayAt_is (Q.out.cells).2.1]
              have := NL.out
              omega
          | true =>
            obtain ⟨p, hp⟩ : ∃ p : Nat, (p : Int) = max 0 (lo - 86400 * n) := ⟨(max 0 (lo - 86400 * n)).toNat, by omega⟩
            obtain ⟨q0, hq⟩ : ∃ q : Nat, (q : Int) = min 86400 (hi + 1 - 86400 * n) := ⟨(min 86400 (hi + 1 - 86400 * n)).toNat, by have := NL.out; omega⟩
            have NX := Lib.hid (upTo_yes (x := x) LN.out.2.1 I.out.n0 NL.out.2.2 hp hq (onB_iff.1 hon))
            have MT := Lib.hid (fun W (q : ED w A B x n y m d k W) => q.mt HX.out true hon)
            have PQ := Lib.hid (show (p : Int) = max 0 (lo - 86400 * n) ∧ (q0 : Int) = min 86400 (hi + 1 - 86400 * n) ∧ p < 86400 ∧ q0 ≤ 86400 ∧ p ≤ q0 by have := LN.out; have := I.out.n0; have := NL.out; omega)
            have w8 : IntKind.i64.wrap (u + S) = u + S := by have := UB.out; have := SB.out; rw [IntKind.wrap_i64]; omega
            clear hon hp hq
            go_wp2_with fail
            refine (MT.out _ Q.out).mono ?_
            rintro e' w3 ⟨rfl, q⟩
            obtain ⟨⟨c0, c1, c2, c3, c4, c5, c6, c7⟩, g0, g1, g2, g3, g4⟩ := q.cells
            have Q := Lib.hid q
            clear q
            go_wp2_with fail
            go_loopw [14, 17] (fun sv iv wr => ∃ (s : Nat) (v : Int), s ≤ p ∧ iv = .int .i64 s ∧ sv = .int .i64 v ∧ Hid (v = u + S - (cntN x.ck 0 s : Int)) ∧ Hid (ED w A B x n y m d k wr)) (fun _ iv _ => 86401 - (intOf iv).toNat)
            case atStart => exact ⟨0, u + S, by omega, rfl, rfl, Lib.hid (by simp [cntN]), Q⟩
            case round =>
              obtain ⟨s, v, hs, rfl, rfl, HV, Q⟩ := hrel
              obtain ⟨⟨c0, c1, c2, c3, c4, c5, c6, c7⟩, g0, g1, g2, g3, g4⟩ := Q.out.cells
              have pq := PQ.out
              have nl := NL.out
              have cb := cnt_le x.ck 0 s
              have hv := HV.out
              have ub := UB.out
              have sb := SB.out
              have w9 : IntKind.i64.wrap (n * 86400 + (s : Int)) = n * 86400 + (s : Int) := by rw [IntKind.wrap_i64]; omega
              have wa : IntKind.i64.wrap ((s : Int) + 1) = (s : Int) + 1 := by rw [IntKind.wrap_i64]; omega
              have wb : IntKind.i64.wrap (v - 1) = v - 1 := by rw [IntKind.wrap_i64]; omega
              by_cases hlt : n * 86400 + (s : Int) < lo
              · have t2 : decide (n * 86400 + (s : Int) < lo) = true := decide_eq_true hlt
                have sp : s < p := by omega
                have s8 : s < 86400 := by omega
                cases hck : Mat.clk x.a2 x.a1 x.a0 s with
                | true =>
                  have NV : Hid (v - 1 = u + S - (cntN x.ck 0 (s + 1) : Int)) := Lib.hid (by rw [cnt_yes (by rw [Int.zero_add]; exact ck_of (by omega) (by omega) hck)]; omega)
                  have CL := Lib.hid (fun W (q : ED w A B x n y m d k W) => q.clock HX.out s true (by omega) (by omega) hck)
                  clear hck pq nl cb hv ub sb hlt
                  go_wp2_with fail
                  refine (CL.out _ Q.out).mono ?_
                  rintro e' w5 ⟨rfl, q⟩
                  have Q := Lib.hid q
                  clear q
                  go_wp2_with fail
                  go_roundw
                  case rel => exact ⟨s + 1, v - 1, by omega, by go_num, rfl, NV, Q⟩
                  case measure => simp [intOf] <;> omega
                | false =>
                  have NV : Hid (v = u + S - (cntN x.ck 0 (s + 1) : Int)) := Lib.hid (by rw [cnt_no (by rw [Int.zero_add]; exact ck_not hck)]; omega)
                  have CL := Lib.hid (fun W (q : ED w A B x n y m d k W) => q.clock HX.out s false (by omega) (by omega) hck)
                  clear hck pq nl cb hv ub sb hlt
                  go_wp2_with fail
                  refine (CL.out _ Q.out).mono ?_
                  rintro e' w5 ⟨rfl, q⟩
                  have Q := Lib.hid q
                  clear q
                  go_wp2_with fail
                  go_roundw
                  case rel => exact ⟨s + 1, v, by omega, by go_num, rfl, NV, Q⟩
                  case measure => simp [intOf] <;> omega
              · have t2 : decide (n * 86400 + (s : Int) < lo) = false := decide_eq_false hlt
                have sp : s = p := by omega
                have V1 : Hid (v = u + S - (cntN x.ck 0 p : Int) ∧ -100000 ≤ v ∧ v ≤ 253402400000) := Lib.hid (by rw [← sp]; omega)
                clear pq nl cb hv ub sb hlt sp hs wa wb HV
                go_wp2_with fail
                go_loopw [14, 18] (fun sv iv wr => ∃ (j : Nat) (v' : Int), j + q0 ≤ 86400 ∧ iv = .int .i64 (86399 - (j : Int)) ∧ sv = .int .i64 v' ∧ Hid (v' = v - (cntN x.ck ((86400 - j : Nat) : Int) j : Int)) ∧ Hid (ED w A B x n y m d k wr)) (fun _ iv _ => ((intOf iv) + 1).toNat)
                case atStart => exact ⟨0, v, by have := PQ.out; omega, rfl, rfl, Lib.hid (by simp [cntN]), Q⟩
                case round =>
                  obtain ⟨j, v', hj, rfl, rfl, HV, Q⟩ := hrel
                  obtain ⟨⟨c0, c1, c2, c3, c4, c5, c6, c7⟩, g0, g1, g2, g3, g4⟩ := Q.out.cells
                  have pq := PQ.out
                  have nl := NL.out
                  have cb := cnt_le x.ck ((86400 - j : Nat) : Int) j
                  have hv := HV.out
                  have v1 := V1.out
                  obtain ⟨r, hr⟩ : ∃ r : Int, 86399 - (j : Int) = r := ⟨_, rfl⟩
                  have w9 : IntKind.i64.wrap (n * 86400 + r) = n * 86400 + r := by rw [IntKind.wrap_i64]; omega
                  have wa : IntKind.i64.wrap (r - 1) = r - 1 := by rw [IntKind.wrap_i64]; omega
                  have wb : IntKind.i64.wrap (v' - 1) = v' - 1 := by rw [IntKind.wrap_i64]; omega
                  rw [hr]
                  by_cases hlt : hi < n * 86400 + r
                  · have t2 : decide (hi < n * 86400 + r) = true := decide_eq_true hlt
                    have sp : j + 1 + q0 ≤ 86400 := by omega
                    have er : ((86400 - (j + 1) : Nat) : Int) = r := by omega
                    have RB := Lib.hid (show 0 ≤ r ∧ r < 86400 ∧ 86399 - ((j + 1 : Nat) : Int) = r - 1 by omega)
                    have er2 : r + 1 = ((86400 - j : Nat) : Int) := by omega
                    cases hck : Mat.clk x.a2 x.a1 x.a0 r with
                    | true =>
                      have NV : Hid (v' - 1 = v - (cntN x.ck ((86400 - (j + 1) : Nat) : Int) (j + 1) : Int)) := Lib.hid (by rw [er, cnt_head_yes (ck_of RB.out.1 RB.out.2.1 hck) er2]; omega)
                      have CL := Lib.hid (fun W (q : ED w A B x n y m d k W) => q.clock HX.out r true RB.out.1 RB.out.2.1 hck)
                      clear hck pq nl cb hv v1 hlt er er2 hr
                      go_wp2_with fail
                      refine (CL.out _ Q.out).mono ?_
                      rintro e' w5 ⟨rfl, q⟩
                      have Q := Lib.hid q
                      clear q
                      go_wp2_with fail
                      go_roundw
                      case rel => exact ⟨j + 1, v' - 1, sp, by rw [RB.out.2.2], rfl, NV, Q⟩
                      case measure => have := RB.out; simp [intOf] <;> omega
                    | false =>
                      have NV : Hid (v' = v - (cntN x.ck ((86400 - (j + 1) : Nat) : Int) (j + 1) : Int)) := Lib.hid (by rw [er, cnt_head_no (ck_not hck) er2]; omega)
                      have CL := Lib.hid (fun W (q : ED w A B x n y m d k W) => q.clock HX.out r false RB.out.1 RB.out.2.1 hck)
                      clear hck pq nl cb hv v1 hlt er er2 hr
                      go_wp2_with fail
                      refine (CL.out _ Q.out).mono ?_
                      rintro e' w5 ⟨rfl, q⟩
                      have Q := Lib.hid q
                      clear q
                      go_wp2_with fail
                      go_roundw
                      case rel => exact ⟨j + 1, v', sp, by rw [RB.out.2.2], rfl, NV, Q⟩
                      case measure => have := RB.out; simp [intOf] <;> omega
                  · have t2 : decide (hi < n * 86400 + r) = false := decide_eq_false hlt
                    have sp : j = 86400 - q0 := by omega
                    have V2 : Hid (v' = (upTo x lo hi (n + 1) : Int)) := Lib.hid (by
                      have a1 := NX.out
                      have a2 := CD.out
                      have a3 := SS.out
                      have a4 := I.out.hu
                      have e1 : 86400 - j = q0 := by omega
                      rw [e1, sp] at hv
                      omega)
                    clear pq nl cb hv v1 hlt sp hj wa wb HV hr
                    obtain ⟨B', hB'⟩ : ∃ B', wr.heap.size = B' := ⟨_, rfl⟩
                    have q := Q.out.copy
                    rw [hB'] at q
                    have Q := Lib.hid q
                    clear q
                    go_wp2_with fail
                    refine (UP.out _ _ Q.out).mono ?_
                    rintro e' w6 ⟨y', m', d', k', rfl, v'', q⟩
                    obtain ⟨⟨c0, c1, c2, c3, c4, c5, c6, c7⟩, g0, g1, g2, g3, g4⟩ := q.cells
                    have fr := fun k => q.dy.free k
                    have Q := Lib.hid (q.store (n + 1) y' m' d' k')
                    clear q
                    go_wp2_with fail
                    go_roundw
                    case rel => exact ⟨B', n + 1, y', m', d', k', v', rfl, rfl, Lib.hid ⟨by have := I.out.n0; omega, by have := NL.out; omega, v''.out, V2.out⟩, Q⟩
                    case measure =>
                      rw [MS.out, dayAt_is (Q.out.cells).2.1]
                      have := NL.out
                      omega
        · have t1 : decide (n * 86400 ≤ hi) = false := decide_eq_false hle
          have RN : Hid (u = (TOT : Int)) := Lib.hid (by rw [I.out.hu, DO.out, upTo_last x (by omega)])
          clear hle nb ub
          go_wp2_with fail
          go_ret2
          exact ⟨by rw [RN.out]; rfl, Q.out.below⟩
  · rw [if_neg h]
    obtain ⟨E, hE⟩ : ∃ E, errC x z [a, b] = E := ⟨_, rfl⟩
    rw [hE] at h CK ⊢
    have t1 : (E != 0) = true := by rw [bne_iff_ne]; exact h
    clear h hE hx
    go_enter Tryz.func91, Tryz.ntmps91
    go_wp2_with fail
    refine (CK.out _ RW.out).mono ?_
    rintro e V ⟨rfl, hb⟩
    have Q := Lib.hid (BC.one LL.out hb)
    clear hb
    go_wp2_with fail
    go_ret2
    exact ⟨rfl, Q.out.be⟩
end Go.Proofs.YtljackjcgfaanaaGreatDoor
