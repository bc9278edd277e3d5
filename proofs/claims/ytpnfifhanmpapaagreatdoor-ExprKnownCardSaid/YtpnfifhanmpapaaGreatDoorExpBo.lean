/- Equal of package expr; where two expressions match together: contracts of withDays and Both. -/
import Derived.Test.YtpnfifhanmpapaaGreatDoorExpDays
import Derived.Test.YtpnfifhanmpapaaGreatDoorMExpE
import Derived.Deep.RegionHeld3
namespace Go.Proofs.YtpnfifhanmpapaaGreatDoor
open Go.ChangeShapes Go.WideShapes Go.RowKit Go.Shelf

/-- the context of withDays -/
structure WD (w : World) (a b : Exp.Ex) (W : World) : Prop where
  below : Below w.heap.size w W
  ra : Row W w.heap.size 25 (exL a)
  rb : Row W (w.heap.size + 1) 25 (exL b)
  res : Row W (w.heap.size + 1 + 1) 25 (exL Exp.zero)
theorem WD.next {w W W' : World} {a b : Exp.Ex} (h : WD w a b W) (hb : Below W.heap.size W W') : WD w a b W' := ⟨h.below.trans (hb.mono h.below.size), h.ra.below hb, h.rb.below hb, h.res.below hb⟩
theorem WD.drew {w W : World} {a b : Exp.Ex} (h : WD w a b W) : WD w a b W.drew := h.next (Below.refl _ _).drew
theorem WD.cells {w W : World} {a b : Exp.Ex} (h : WD w a b W) : (W.cell? ⟨w.heap.size, 0, none⟩ = some (.int .u64 a.a0) ∧ W.cell? ⟨w.heap.size, 1, none⟩ = some (.int .u64 a.a1) ∧ W.cell? ⟨w.heap.size, 2, none⟩ = some (.int .u64 a.a2) ∧ W.cell? ⟨w.heap.size, 3, none⟩ = some (.int .u64 a.a3) ∧ W.cell? ⟨w.heap.size, 4, none⟩ = some (.int .u64 a.a4) ∧ W.cell? ⟨w.heap.size, 5, none⟩ = some (.int .u64 a.a5) ∧ W.cell? ⟨w.heap.size, 6, none⟩ = some (.bool a.b3) ∧ W.cell? ⟨w.heap.size, 7, none⟩ = some (.bool a.b5)) ∧ W.cell? ⟨(w.heap.size + 1), 0, none⟩ = some (.int .u64 b.a0) ∧ W.cell? ⟨(w.heap.size + 1), 1, none⟩ = some (.int .u64 b.a1) ∧ W.cell? ⟨(w.heap.size + 1), 2, none⟩ = some (.int .u64 b.a2) ∧ W.cell? ⟨(w.heap.size + 1), 3, none⟩ = some (.int .u64 b.a3) ∧ W.cell? ⟨(w.heap.size + 1), 4, none⟩ = some (.int .u64 b.a4) ∧ W.cell? ⟨(w.heap.size + 1), 5, none⟩ = some (.int .u64 b.a5) ∧ W.cell? ⟨(w.heap.size + 1), 6, none⟩ = some (.bool b.b3) ∧ W.cell? ⟨(w.heap.size + 1), 7, none⟩ = some (.bool b.b5) :=
  ⟨⟨h.ra.cell 0, h.ra.cell 1, h.ra.cell 2, h.ra.cell 3, h.ra.cell 4, h.ra.cell 5, h.ra.cell 6, h.ra.cell 7⟩, h.rb.cell 0, h.rb.cell 1, h.rb.cell 2, h.rb.cell 3, h.rb.cell 4, h.rb.cell 5, h.rb.cell 6, h.rb.cell 7⟩
theorem wd0 (w : World) (a b : Exp.Ex) : WD w a b (((w.alloc (.cells #[.int .u64 a.a0, .int .u64 a.a1, .int .u64 a.a2, .int .u64 a.a3, .int .u64 a.a4, .int .u64 a.a5, .bool a.b3, .bool a.b5] 25)).alloc (.cells #[.int .u64 b.a0, .int .u64 b.a1, .int .u64 b.a2, .int .u64 b.a3, .int .u64 b.a4, .int .u64 b.a5, .bool b.b3, .bool b.b5] 25)).alloc (.cells #[.int .u64 0, .int .u64 0, .int .u64 0, .int .u64 0, .int .u64 0, .int .u64 0, .bool false, .bool false] 25)) := by
  have r2 := (Row.new (w.alloc (.cells (exL a).toArray 25)) (exL b) 25).alloc (.cells (exL Exp.zero).toArray 25)
  have r3 := Row.new ((w.alloc (.cells (exL a).toArray 25)).alloc (.cells (exL b).toArray 25)) (exL Exp.zero) 25
  rw [World.size_alloc] at r2
  rw [World.size_alloc, World.size_alloc] at r3
  exact ⟨(((Below.refl _ w).alloc (Nat.le_refl _) _).alloc (by simp) _).alloc (by simp; omega) _, ((Row.new w (exL a) _).alloc _).alloc _, r2, r3⟩
theorem p_days {w W : World} {a b : Exp.Ex} (h : WD w a b W) (x : Exp.Ex) (d : Nat) (hd : x.days = d) :
    Calls Tryz.prog 96 #[.agg #[.int .u64 x.a0, .int .u64 x.a1, .int .u64 x.a2, .int .u64 x.a3, .int .u64 x.a4, .int .u64 x.a5, .bool x.b3, .bool x.b5]] W fun e W' => e = .returned (.int .i64 (d : Nat)) ∧ WD w a b W' :=
  (days_any x W).mono fun _ _ ⟨h1, h2⟩ => ⟨by rw [h1, hd], h.next h2⟩

/-- what withDays' frame holds while both kinds of days are asked for -/
def WInv (w : World) (a b : Exp.Ex) (da db : Nat) (g : Nat → Bool) (c : Act) (W : World) : Prop := ∃ v6 v7 v8 v9 v10 v11,
  c = { tmps := #[.agg #[.int .u64 a.a0, .int .u64 a.a1, .int .u64 a.a2, .int .u64 a.a3, .int .u64 a.a4, .int .u64 a.a5, .bool a.b3, .bool a.b5], .agg #[.int .u64 b.a0, .int .u64 b.a1, .int .u64 b.a2, .int .u64 b.a3, .int .u64 b.a4, .int .u64 b.a5, .bool b.b3, .bool b.b5], .pointer (some ⟨w.heap.size, 0, none⟩), .pointer (some ⟨w.heap.size + 1, 0, none⟩), .pointer (some ⟨w.heap.size + 1 + 1, 0, none⟩), .bool false, v6, v7, v8, v9, v10, v11, undef, undef, undef, undef, undef, undef, undef, undef, undef, undef, undef, undef, undef, undef, undef, undef, undef, undef, undef, undef, undef, undef, undef, undef, undef, undef, undef, undef, undef, undef, undef, undef, undef, undef, undef, undef, undef, undef, undef, undef, undef, undef], defers := [] } ∧
  WD w a b W ∧ (g 0 = true → v8 = .agg #[.int .u64 a.a0, .int .u64 a.a1, .int .u64 a.a2, .int .u64 a.a3, .int .u64 a.a4, .int .u64 a.a5, .bool a.b3, .bool a.b5]) ∧ (g 1 = true → v9 = .int .i64 da) ∧ (g 2 = true → v10 = .agg #[.int .u64 b.a0, .int .u64 b.a1, .int .u64 b.a2, .int .u64 b.a3, .int .u64 b.a4, .int .u64 b.a5, .bool b.b3, .bool b.b5]) ∧ (g 3 = true → v11 = .int .i64 db) ∧ (g 4 = true → v6 = .int .i64 da) ∧ (g 5 = true → v7 = .int .i64 db)
set_option maxRecDepth 100000 in
set_option maxHeartbeats 4000000 in
theorem with_any (a b : Exp.Ex) (ha : a.Bd) (hb : b.Bd) (w : World) (x : Exp.Ex) (is : Bool) (hr : Exp.withD a b = (x, is)) :
    Calls Tryz.prog 64 #[.agg #[.int .u64 a.a0, .int .u64 a.a1, .int .u64 a.a2, .int .u64 a.a3, .int .u64 a.a4, .int .u64 a.a5, .bool a.b3, .bool a.b5], .agg #[.int .u64 b.a0, .int .u64 b.a1, .int .u64 b.a2, .int .u64 b.a3, .int .u64 b.a4, .int .u64 b.a5, .bool b.b3, .bool b.b5]] w fun e w' => e = .returned (.tuple #[.agg #[.int .u64 x.a0, .int .u64 x.a1, .int .u64 x.a2, .int .u64 x.a3, .int .u64 x.a4, .int .u64 x.a5, .bool x.b3, .bool x.b5], .bool is]) ∧ Below w.heap.size w w' := by
  have HW := Lib.hid (wd0 w a b)
  obtain ⟨da, hda⟩ : ∃ d, a.days = d := ⟨_, rfl⟩
  obtain ⟨db, hdb⟩ : ∃ d, b.days = d := ⟨_, rfl⟩
  have HDA := Lib.hid hda
  have HDB := Lib.hid hdb
  unfold Exp.withD at hr
  rw [hda, hdb] at hr
  obtain ⟨m3, hm3⟩ : ∃ m, a.a3 &&& b.a3 = m := ⟨_, rfl⟩
  obtain ⟨m5, hm5⟩ : ∃ m, a.a5 &&& b.a5 = m := ⟨_, rfl⟩
  have an3 : bits .and .u64 (a.a3 : Int) (b.a3 : Int) = (m3 : Nat) := by rw [← hm3]; exact u64_and_nat _ _ (ha 3 (by decide)) (hb 3 (by decide))
  have an5 : bits .and .u64 (a.a5 : Int) (b.a5 : Int) = (m5 : Nat) := by rw [← hm5]; exact u64_and_nat _ _ (ha 5 (by decide)) (hb 5 (by decide))
  rw [hm3, hm5] at hr
  obtain ⟨pe, te⟩ : ∃ p, (da == db) = p := ⟨_, rfl⟩
  obtain ⟨p3, t3⟩ : ∃ p, (a.a3 == b.a3) = p := ⟨_, rfl⟩
  obtain ⟨p5, t5⟩ : ∃ p, (a.a5 == b.a5) = p := ⟨_, rfl⟩
  obtain ⟨pk, tk⟩ : ∃ p, (da == 3) = p := ⟨_, rfl⟩
  rw [te, t3, t5, tk] at hr
  have HR := Lib.hid hr
  clear hr hda hdb hm3 hm5 ha hb
  go_enter Tryz.func64, Tryz.ntmps64
  go_wp2_with fail
  obtain ⟨W0, hW0⟩ : ∃ W0, ((w.alloc (.cells #[.int .u64 a.a0, .int .u64 a.a1, .int .u64 a.a2, .int .u64 a.a3, .int .u64 a.a4, .int .u64 a.a5, .bool a.b3, .bool a.b5] 25)).alloc (.cells #[.int .u64 b.a0, .int .u64 b.a1, .int .u64 b.a2, .int .u64 b.a3, .int .u64 b.a4, .int .u64 b.a5, .bool b.b3, .bool b.b5] 25)).alloc (.cells #[.int .u64 0, .int .u64 0, .int .u64 0, .int .u64 0, .int .u64 0, .int .u64 0, .bool false, .bool false] 25) = W0 := ⟨_, rfl⟩
  rw [hW0] at HW ⊢
  have Q := HW
  clear hW0 HW
  refine wp_region_inv (WInv w a b da db) (by kernel_rfl) ?i0 ?step ?last ?topo
  case i0 => exact ⟨_, _, _, _, _, _, rfl, Q.out.drew, (fun h => by cases h), (fun h => by cases h), (fun h => by cases h), (fun h => by cases h), (fun h => by cases h), (fun h => by cases h)⟩
  case topo => kernel_rfl
  case step =>
    intro i o g c W ho hI hg hdep K' hK
    obtain ⟨v6, v7, v8, v9, v10, v11, rfl, hP, q0, q1, q2, q3, q4, q5⟩ := hI
    have hi : i < 6 := (Array.getElem?_eq_some_iff.1 ho).1
    rcases (show i = 0 ∨ i = 1 ∨ i = 2 ∨ i = 3 ∨ i = 4 ∨ i = 5 by omega) with rfl | rfl | rfl | rfl | rfl | rfl
    · simp only [List.getElem?_toArray, List.getElem?_cons_zero, Option.some.injEq] at ho
      subst ho
      have e0 := hP.ra.cell 0; have e1 := hP.ra.cell 1; have e2 := hP.ra.cell 2; have e3 := hP.ra.cell 3; have e4 := hP.ra.cell 4; have e5 := hP.ra.cell 5; have e6 := hP.ra.cell 6; have e7 := hP.ra.cell 7
      simp only [exL, List.getElem?_cons_zero, List.getElem?_cons_succ] at e0 e1 e2 e3 e4 e5 e6 e7
      go_simp
      exact hK.out _ _ ⟨_, _, _, _, _, _, rfl, hP, fun _ => rfl, q1, q2, q3, q4, q5⟩
    · simp only [List.getElem?_toArray, List.getElem?_cons_zero, List.getElem?_cons_succ, Option.some.injEq] at ho
      subst ho
      have q := q0 (hdep ⟨0, .data⟩ (by simp) rfl)
      subst q
      clear hdep
      go_simp
      refine (p_days hP a da HDA.out).mono ?_
      rintro e W2 ⟨rfl, hP⟩
      go_simp
      exact hK.out _ _ ⟨_, _, _, _, _, _, rfl, hP, q0, fun _ => rfl, q2, q3, q4, q5⟩
    · simp only [List.getElem?_toArray, List.getElem?_cons_zero, List.getElem?_cons_succ, Option.some.injEq] at ho
      subst ho
      have e0 := hP.rb.cell 0; have e1 := hP.rb.cell 1; have e2 := hP.rb.cell 2; have e3 := hP.rb.cell 3; have e4 := hP.rb.cell 4; have e5 := hP.rb.cell 5; have e6 := hP.rb.cell 6; have e7 := hP.rb.cell 7
      simp only [exL, List.getElem?_cons_zero, List.getElem?_cons_succ] at e0 e1 e2 e3 e4 e5 e6 e7
      go_simp
      exact hK.out _ _ ⟨_, _, _, _, _, _, rfl, hP, q0, q1, fun _ => rfl, q3, q4, q5⟩
    · simp only [List.getElem?_toArray, List.getElem?_cons_zero, List.getElem?_cons_succ, Option.some.injEq] at ho
      subst ho
      have q := q2 (hdep ⟨2, .data⟩ (by simp) rfl)
      subst q
      clear hdep
      go_simp
      refine (p_days hP b db HDB.out).mono ?_
      rintro e W2 ⟨rfl, hP⟩
      go_simp
      exact hK.out _ _ ⟨_, _, _, _, _, _, rfl, hP, q0, q1, q2, fun _ => rfl, q4, q5⟩
    · simp only [List.getElem?_toArray, List.getElem?_cons_zero, List.getElem?_cons_succ, Option.some.injEq] at ho
      subst ho
      have q := q1 (hdep ⟨1, .data⟩ (by simp) rfl)
      subst q
      clear hdep
      go_simp
      exact hK.out _ _ ⟨_, _, _, _, _, _, rfl, hP, q0, q1, q2, q3, fun _ => rfl, q5⟩
    · simp only [List.getElem?_toArray, List.getElem?_cons_zero, List.getElem?_cons_succ, Option.some.injEq] at ho
      subst ho
      have q := q3 (hdep ⟨3, .data⟩ (by simp) rfl)
      subst q
      clear hdep
      go_simp
      exact hK.out _ _ ⟨_, _, _, _, _, _, rfl, hP, q0, q1, q2, q3, q4, fun _ => rfl⟩
  case last =>
    intro g c W hI hall
    obtain ⟨v6, v7, v8, v9, v10, v11, rfl, hP, q0, q1, q2, q3, q4, q5⟩ := hI
    obtain rfl := q0 (hall 0 (by decide))
    obtain rfl := q1 (hall 1 (by decide))
    obtain rfl := q2 (hall 2 (by decide))
    obtain rfl := q3 (hall 3 (by decide))
    obtain rfl := q4 (hall 4 (by decide))
    obtain rfl := q5 (hall 5 (by decide))
    clear hall q0 q1 q2 q3 q4 q5
    have u0 := hP.ra.cell 0; have u1 := hP.ra.cell 1; have u2 := hP.ra.cell 2; have u3 := hP.ra.cell 3; have u4 := hP.ra.cell 4; have u5 := hP.ra.cell 5; have u6 := hP.ra.cell 6; have u7 := hP.ra.cell 7
    have d0 := hP.rb.cell 0; have d1 := hP.rb.cell 1; have d2 := hP.rb.cell 2; have d3 := hP.rb.cell 3; have d4 := hP.rb.cell 4; have d5 := hP.rb.cell 5; have d6 := hP.rb.cell 6; have d7 := hP.rb.cell 7
    have n0 := hP.res.cell 0; have n1 := hP.res.cell 1; have n2 := hP.res.cell 2; have n3 := hP.res.cell 3; have n4 := hP.res.cell 4; have n5 := hP.res.cell 5; have n6 := hP.res.cell 6; have n7 := hP.res.cell 7
    have f0 := hP.res.free 0; have f1 := hP.res.free 1; have f2 := hP.res.free 2; have f3 := hP.res.free 3; have f4 := hP.res.free 4; have f5 := hP.res.free 5; have f6 := hP.res.free 6; have f7 := hP.res.free 7
    have g3 := hP.ra.free 3; have g5 := hP.ra.free 5
    simp only [exL, Exp.zero, List.getElem?_cons_zero, List.getElem?_cons_succ, Int.natCast_zero] at u0 u1 u2 u3 u4 u5 u6 u7 d0 d1 d2 d3 d4 d5 d6 d7 n0 n1 n2 n3 n4 n5 n6 n7
    have HQ := Lib.hid hP
    have ne1 : w.heap.size ≠ w.heap.size + 1 + 1 := by omega
    have ne2 : w.heap.size + 1 + 1 ≠ w.heap.size := by omega
    have ne3 : w.heap.size + 1 ≠ w.heap.size + 1 + 1 := by omega
    have ne4 : w.heap.size + 1 + 1 ≠ w.heap.size + 1 := by omega
    have ne5 : w.heap.size ≠ w.heap.size + 1 := by omega
    have ne6 : w.heap.size + 1 ≠ w.heap.size := by omega
    clear hP
    have hr := HR.out
    clear HR HDA HDB Q
    by_cases z1 : da = 0
    · rw [if_pos z1] at hr
      simp only [Prod.mk.injEq] at hr
      obtain ⟨rfl, rfl⟩ := hr
      have s1 : ((da : Int) == 0) = true := by rw [beq_iff_eq]; omega
      have s1n : (da == 0) = true := by rw [beq_iff_eq]; omega
      clear z1 te tk
      go_wp2_with fail
      have RR := set8_row HQ.out.res (.int .u64 b.a0) (.int .u64 b.a1) (.int .u64 b.a2) (.int .u64 b.a3) (.int .u64 b.a4) (.int .u64 b.a5) (.bool b.b3) (.bool b.b5)
      have m0 := RR.cell 0; have m1 := RR.cell 1; have m2 := RR.cell 2; have m3' := RR.cell 3; have m4 := RR.cell 4; have m5' := RR.cell 5; have m6 := RR.cell 6; have m7 := RR.cell 7
      simp only [List.getElem?_cons_zero, List.getElem?_cons_succ] at m0 m1 m2 m3' m4 m5' m6 m7
      refine bodyPost_ret (v := .tuple #[.agg #[.int .u64 b.a0, .int .u64 b.a1, .int .u64 b.a2, .int .u64 b.a3, .int .u64 b.a4, .int .u64 b.a5, .bool b.b3, .bool b.b5], .bool true]) (by simp [results, Tryz.results64, go_sem, m0, m1, m2, m3', m4, m5', m6, m7]) rfl ⟨rfl, ?_⟩
      have bl := HQ.out.below
      repeat' refine bel_cell ?_ (by omega) _ _
      exact bl
    rw [if_neg z1] at hr
    have s1 : ((da : Int) == 0) = false := by rw [beq_eq_false_iff_ne]; omega
    have s1n : (da == 0) = false := by rw [beq_eq_false_iff_ne]; omega
    by_cases z2 : db = 0
    · rw [if_pos z2] at hr
      simp only [Prod.mk.injEq] at hr
      obtain ⟨rfl, rfl⟩ := hr
      have s2 : ((db : Int) == 0) = true := by rw [beq_iff_eq]; omega
      have s2n : (db == 0) = true := by rw [beq_iff_eq]; omega
      clear z1 z2 te tk
      go_wp2_with fail
      have RR := set8_row HQ.out.res (.int .u64 a.a0) (.int .u64 a.a1) (.int .u64 a.a2) (.int .u64 a.a3) (.int .u64 a.a4) (.int .u64 a.a5) (.bool a.b3) (.bool a.b5)
      have m0 := RR.cell 0; have m1 := RR.cell 1; have m2 := RR.cell 2; have m3' := RR.cell 3; have m4 := RR.cell 4; have m5' := RR.cell 5; have m6 := RR.cell 6; have m7 := RR.cell 7
      simp only [List.getElem?_cons_zero, List.getElem?_cons_succ] at m0 m1 m2 m3' m4 m5' m6 m7
      refine bodyPost_ret (v := .tuple #[.agg #[.int .u64 a.a0, .int .u64 a.a1, .int .u64 a.a2, .int .u64 a.a3, .int .u64 a.a4, .int .u64 a.a5, .bool a.b3, .bool a.b5], .bool true]) (by simp [results, Tryz.results64, go_sem, m0, m1, m2, m3', m4, m5', m6, m7]) rfl ⟨rfl, ?_⟩
      have bl := HQ.out.below
      repeat' refine bel_cell ?_ (by omega) _ _
      exact bl
    rw [if_neg z2] at hr
    have s2 : ((db : Int) == 0) = false := by rw [beq_eq_false_iff_ne]; omega
    have s2n : (db == 0) = false := by rw [beq_eq_false_iff_ne]; omega
    have se : ((da : Int) != (db : Int)) = !pe := by
      rw [← te]
      by_cases e : da = db
      · rw [e]; simp
      · rw [beq_eq_false_iff_ne.2 e, bne_iff_ne.2 (by omega)]; rfl
    have sk : ((da : Int) == 3) = pk := by rw [← tk, Bool.eq_iff_iff, beq_iff_eq, beq_iff_eq]; omega
    have s3 : ((a.a3 : Int) != (b.a3 : Int)) = !p3 := by
      rw [← t3]
      by_cases e : a.a3 = b.a3
      · rw [e]; simp
      · rw [beq_eq_false_iff_ne.2 e, bne_iff_ne.2 (by omega)]; rfl
    have s5 : ((a.a5 : Int) != (b.a5 : Int)) = !p5 := by
      rw [← t5]
      by_cases e : a.a5 = b.a5
      · rw [e]; simp
      · rw [beq_eq_false_iff_ne.2 e, bne_iff_ne.2 (by omega)]; rfl
    clear z1 z2 te tk t3 t5
    cases pe
    case false =>
      rw [if_pos rfl] at hr
      simp only [Prod.mk.injEq] at hr
      obtain ⟨rfl, rfl⟩ := hr
      simp only [Bool.not_false] at se
      go_wp2_with fail
      have RR := set8_row HQ.out.res (.int .u64 0) (.int .u64 0) (.int .u64 0) (.int .u64 0) (.int .u64 0) (.int .u64 0) (.bool false) (.bool false)
      have m0 := RR.cell 0; have m1 := RR.cell 1; have m2 := RR.cell 2; have m3' := RR.cell 3; have m4 := RR.cell 4; have m5' := RR.cell 5; have m6 := RR.cell 6; have m7 := RR.cell 7
      simp only [List.getElem?_cons_zero, List.getElem?_cons_succ] at m0 m1 m2 m3' m4 m5' m6 m7
      refine bodyPost_ret (v := .tuple #[.agg #[.int .u64 0, .int .u64 0, .int .u64 0, .int .u64 0, .int .u64 0, .int .u64 0, .bool false, .bool false], .bool false]) (by simp [results, Tryz.results64, go_sem, m0, m1, m2, m3', m4, m5', m6, m7]) rfl ⟨rfl, ?_⟩
      have bl := HQ.out.below
      repeat' refine bel_cell ?_ (by omega) _ _
      exact bl
    rw [if_neg (by simp)] at hr
    simp only [Bool.not_true] at se
    cases pk
    case false =>
      rw [if_neg (by simp)] at hr
      simp only [Prod.mk.injEq] at hr
      obtain ⟨rfl, rfl⟩ := hr
      go_wp2_with fail
      have RR := set8_row ((HQ.out.res.other ⟨w.heap.size, 3, none⟩ (.int .u64 m3) ne2).other ⟨w.heap.size, 5, none⟩ (.int .u64 m5) ne2) (.int .u64 a.a0) (.int .u64 a.a1) (.int .u64 a.a2) (.int .u64 m3) (.int .u64 a.a4) (.int .u64 m5) (.bool a.b3) (.bool a.b5)
      have m0 := RR.cell 0; have m1 := RR.cell 1; have m2 := RR.cell 2; have m3' := RR.cell 3; have m4 := RR.cell 4; have m5' := RR.cell 5; have m6 := RR.cell 6; have m7 := RR.cell 7
      simp only [List.getElem?_cons_zero, List.getElem?_cons_succ] at m0 m1 m2 m3' m4 m5' m6 m7
      refine bodyPost_ret (v := .tuple #[.agg #[.int .u64 a.a0, .int .u64 a.a1, .int .u64 a.a2, .int .u64 m3, .int .u64 a.a4, .int .u64 m5, .bool a.b3, .bool a.b5], .bool true]) (by simp [results, Tryz.results64, go_sem, m0, m1, m2, m3', m4, m5', m6, m7]) rfl ⟨rfl, ?_⟩
      have bl := HQ.out.below
      repeat' refine bel_cell ?_ (by omega) _ _
      exact bl
    cases p3
    case false =>
      rw [if_pos (by simp)] at hr
      simp only [Prod.mk.injEq] at hr
      obtain ⟨rfl, rfl⟩ := hr
      simp only [Bool.not_false] at s3
      go_wp2_with fail
      have RR := set8_row HQ.out.res (.int .u64 0) (.int .u64 0) (.int .u64 0) (.int .u64 0) (.int .u64 0) (.int .u64 0) (.bool false) (.bool false)
      have m0 := RR.cell 0; have m1 := RR.cell 1; have m2 := RR.cell 2; have m3' := RR.cell 3; have m4 := RR.cell 4; have m5' := RR.cell 5; have m6 := RR.cell 6; have m7 := RR.cell 7
      simp only [List.getElem?_cons_zero, List.getElem?_cons_succ] at m0 m1 m2 m3' m4 m5' m6 m7
      refine bodyPost_ret (v := .tuple #[.agg #[.int .u64 0, .int .u64 0, .int .u64 0, .int .u64 0, .int .u64 0, .int .u64 0, .bool false, .bool false], .bool false]) (by simp [results, Tryz.results64, go_sem, m0, m1, m2, m3', m4, m5', m6, m7]) rfl ⟨rfl, ?_⟩
      have bl := HQ.out.below
      repeat' refine bel_cell ?_ (by omega) _ _
      exact bl
    simp only [Bool.not_true] at s3
    cases p5
    case false =>
      rw [if_pos (by simp)] at hr
      simp only [Prod.mk.injEq] at hr
      obtain ⟨rfl, rfl⟩ := hr
      simp only [Bool.not_false] at s5
      go_wp2_with fail
      have RR := set8_row HQ.out.res (.int .u64 0) (.int .u64 0) (.int .u64 0) (.int .u64 0) (.int .u64 0) (.int .u64 0) (.bool false) (.bool false)
      have m0 := RR.cell 0; have m1 := RR.cell 1; have m2 := RR.cell 2; have m3' := RR.cell 3; have m4 := RR.cell 4; have m5' := RR.cell 5; have m6 := RR.cell 6; have m7 := RR.cell 7
      simp only [List.getElem?_cons_zero, List.getElem?_cons_succ] at m0 m1 m2 m3' m4 m5' m6 m7
      refine bodyPost_ret (v := .tuple #[.agg #[.int .u64 0, .int .u64 0, .int .u64 0, .int .u64 0, .int .u64 0, .int .u64 0, .bool false, .bool false], .bool false]) (by simp [results, Tryz.results64, go_sem, m0, m1, m2, m3', m4, m5', m6, m7]) rfl ⟨rfl, ?_⟩
      have bl := HQ.out.below
      repeat' refine bel_cell ?_ (by omega) _ _
      exact bl
    rw [if_neg (by simp)] at hr
    simp only [Prod.mk.injEq] at hr
    obtain ⟨rfl, rfl⟩ := hr
    simp only [Bool.not_true] at s5
    go_wp2_with fail
    have RR := set8_row ((HQ.out.res.other ⟨w.heap.size, 3, none⟩ (.int .u64 m3) ne2).other ⟨w.heap.size, 5, none⟩ (.int .u64 m5) ne2) (.int .u64 a.a0) (.int .u64 a.a1) (.int .u64 a.a2) (.int .u64 m3) (.int .u64 a.a4) (.int .u64 m5) (.bool a.b3) (.bool a.b5)
    have m0 := RR.cell 0; have m1 := RR.cell 1; have m2 := RR.cell 2; have m3' := RR.cell 3; have m4 := RR.cell 4; have m5' := RR.cell 5; have m6 := RR.cell 6; have m7 := RR.cell 7
    simp only [List.getElem?_cons_zero, List.getElem?_cons_succ] at m0 m1 m2 m3' m4 m5' m6 m7
    refine bodyPost_ret (v := .tuple #[.agg #[.int .u64 a.a0, .int .u64 a.a1, .int .u64 a.a2, .int .u64 m3, .int .u64 a.a4, .int .u64 m5, .bool a.b3, .bool a.b5], .bool true]) (by simp [results, Tryz.results64, go_sem, m0, m1, m2, m3', m4, m5', m6, m7]) rfl ⟨rfl, ?_⟩
    have bl := HQ.out.below
    repeat' refine bel_cell ?_ (by omega) _ _
    exact bl
end Go.Proofs.YtpnfifhanmpapaaGreatDoor
