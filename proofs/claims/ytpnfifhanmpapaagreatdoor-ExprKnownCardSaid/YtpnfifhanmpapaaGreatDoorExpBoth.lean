/- Where two expressions match together: contract of Both of package expr. -/
import Derived.Test.YtpnfifhanmpapaaGreatDoorExpBo
namespace Go.Proofs.YtpnfifhanmpapaaGreatDoor
open Go.ChangeShapes Go.WideShapes Go.RowKit Go.Shelf

theorem full_none {x : Exp.Ex} {i : Nat} (hi : i < 6) (h : x.at i = 0) : x.full = false := by
  unfold Exp.Ex.full
  rw [List.all_eq_false]
  exact ⟨i, by simpa using hi, by simp [h]⟩
theorem full_all {x : Exp.Ex} (h : ∀ i, i < 6 → x.at i ≠ 0) : x.full = true := by
  unfold Exp.Ex.full
  rw [List.all_eq_true]
  exact fun i hi => by simpa using h i (by simpa using hi)
theorem p_check {w W : World} {a b : Exp.Ex} (h : WD w a b W) (x : Exp.Ex) (hx : x.Bd) :
    Calls Tryz.prog 23 #[.agg #[.int .u64 x.a0, .int .u64 x.a1, .int .u64 x.a2, .int .u64 x.a3, .int .u64 x.a4, .int .u64 x.a5, .bool x.b3, .bool x.b5]] W fun e W' => e = .returned (.int .i64 (errOk x.okB)) ∧ WD w a b W' :=
  (check_ex x hx W).mono fun _ _ ⟨h1, h2⟩ => ⟨h1, h.next h2⟩
/-- the context of Both's end: .., the result's block, the places of its fields -/
structure BW (w : World) (y : Exp.Ex) (B : Nat) (W : World) : Prop where
  below : Below w.heap.size w W
  res : Row W (w.heap.size + 1 + 1) 25 (exL Exp.zero)
  row : Row W B 25 (exL y)
theorem BW.next {w W W' : World} {y : Exp.Ex} {B : Nat} (h : BW w y B W) (hb : Below W.heap.size W W') : BW w y B W' := ⟨h.below.trans (hb.mono h.below.size), h.res.below hb, h.row.below hb⟩

/-- the world while Both's end is under way: which of the four fields are stored -/
structure BM (w : World) (a b v : Exp.Ex) (m0 m1 m2 m4 B : Nat) (h0 h1 h2 h4 : Bool) (W : World) : Prop where
  wd : WD w a b W
  lt : w.heap.size + 1 + 1 < B
  row : Row W B 25 [.int .u64 (if h0 = true then m0 else v.a0 : Nat), .int .u64 (if h1 = true then m1 else v.a1 : Nat), .int .u64 (if h2 = true then m2 else v.a2 : Nat), .int .u64 v.a3, .int .u64 (if h4 = true then m4 else v.a4 : Nat), .int .u64 v.a5, .bool v.b3, .bool v.b5]
theorem BM.wset {w W : World} {a b v : Exp.Ex} {m0 m1 m2 m4 B : Nat} {h0 h1 h2 h4 : Bool} (h : BM w a b v m0 m1 m2 m4 B h0 h1 h2 h4 W) (k : Nat) (u : Value) : WD w a b (W.setCell ⟨B, k, none⟩ u) := by
  have l := h.lt
  exact ⟨bel_cell h.wd.below (by omega) _ _, h.wd.ra.other ⟨B, k, none⟩ u (by show w.heap.size ≠ B; omega), h.wd.rb.other ⟨B, k, none⟩ u (by show w.heap.size + 1 ≠ B; omega), h.wd.res.other ⟨B, k, none⟩ u (by show w.heap.size + 1 + 1 ≠ B; omega)⟩
theorem BM.set0 {w W : World} {a b v : Exp.Ex} {m0 m1 m2 m4 B : Nat} {h0 h1 h2 h4 : Bool} (h : BM w a b v m0 m1 m2 m4 B h0 h1 h2 h4 W) : BM w a b v m0 m1 m2 m4 B true h1 h2 h4 (W.setCell ⟨B, 0, none⟩ (.int .u64 m0)) := ⟨h.wset 0 _, h.lt, h.row.set 0 _⟩
theorem BM.set1 {w W : World} {a b v : Exp.Ex} {m0 m1 m2 m4 B : Nat} {h0 h1 h2 h4 : Bool} (h : BM w a b v m0 m1 m2 m4 B h0 h1 h2 h4 W) : BM w a b v m0 m1 m2 m4 B h0 true h2 h4 (W.setCell ⟨B, 1, none⟩ (.int .u64 m1)) := ⟨h.wset 1 _, h.lt, h.row.set 1 _⟩
theorem BM.set2 {w W : World} {a b v : Exp.Ex} {m0 m1 m2 m4 B : Nat} {h0 h1 h2 h4 : Bool} (h : BM w a b v m0 m1 m2 m4 B h0 h1 h2 h4 W) : BM w a b v m0 m1 m2 m4 B h0 h1 true h4 (W.setCell ⟨B, 2, none⟩ (.int .u64 m2)) := ⟨h.wset 2 _, h.lt, h.row.set 2 _⟩
theorem BM.set4 {w W : World} {a b v : Exp.Ex} {m0 m1 m2 m4 B : Nat} {h0 h1 h2 h4 : Bool} (h : BM w a b v m0 m1 m2 m4 B h0 h1 h2 h4 W) : BM w a b v m0 m1 m2 m4 B h0 h1 h2 true (W.setCell ⟨B, 4, none⟩ (.int .u64 m4)) := ⟨h.wset 4 _, h.lt, h.row.set 4 _⟩
def BInv (w : World) (a b v : Exp.Ex) (m0 m1 m2 m4 B : Nat) (g : Nat → Bool) (c : Act) (W : World) : Prop := ∃ v29 v30 v31 v32 v33 v34 v35 v36 v37 v38 v39 v40 v41 v42 v43 v44 v45 v46 v47 v48 v49 v50 v51 v52,
  c = { tmps := #[.agg #[.int .u64 a.a0, .int .u64 a.a1, .int .u64 a.a2, .int .u64 a.a3, .int .u64 a.a4, .int .u64 a.a5, .bool a.b3, .bool a.b5], .agg #[.int .u64 b.a0, .int .u64 b.a1, .int .u64 b.a2, .int .u64 b.a3, .int .u64 b.a4, .int .u64 b.a5, .bool b.b3, .bool b.b5], .pointer (some ⟨w.heap.size, 0, none⟩), .pointer (some ⟨w.heap.size + 1, 0, none⟩), .pointer (some ⟨w.heap.size + 1 + 1, 0, none⟩), .bool false, .int .i64 0, .pointer (some ⟨B, 0, none⟩), .bool true, undef, undef, .agg #[.int .u64 a.a0, .int .u64 a.a1, .int .u64 a.a2, .int .u64 a.a3, .int .u64 a.a4, .int .u64 a.a5, .bool a.b3, .bool a.b5], .int .i64 0, .bool false, .bool false, .agg #[.int .u64 b.a0, .int .u64 b.a1, .int .u64 b.a2, .int .u64 b.a3, .int .u64 b.a4, .int .u64 b.a5, .bool b.b3, .bool b.b5], .int .i64 0, .bool false, .bool false, undef, .tuple #[.agg #[.int .u64 v.a0, .int .u64 v.a1, .int .u64 v.a2, .int .u64 v.a3, .int .u64 v.a4, .int .u64 v.a5, .bool v.b3, .bool v.b5], .bool true], .agg #[.int .u64 a.a0, .int .u64 a.a1, .int .u64 a.a2, .int .u64 a.a3, .int .u64 a.a4, .int .u64 a.a5, .bool a.b3, .bool a.b5], .agg #[.int .u64 b.a0, .int .u64 b.a1, .int .u64 b.a2, .int .u64 b.a3, .int .u64 b.a4, .int .u64 b.a5, .bool b.b3, .bool b.b5], .tuple #[.agg #[.int .u64 v.a0, .int .u64 v.a1, .int .u64 v.a2, .int .u64 v.a3, .int .u64 v.a4, .int .u64 v.a5, .bool v.b3, .bool v.b5], .bool true], .agg #[.int .u64 v.a0, .int .u64 v.a1, .int .u64 v.a2, .int .u64 v.a3, .int .u64 v.a4, .int .u64 v.a5, .bool v.b3, .bool v.b5], .bool true, .bool true, .bool false, undef, v29, v30, v31, v32, v33, v34, v35, v36, v37, v38, v39, v40, v41, v42, v43, v44, v45, v46, v47, v48, v49, v50, v51, v52, undef, undef, undef, undef, undef, undef, undef, undef, undef, undef, undef], defers := [] } ∧ BM w a b v m0 m1 m2 m4 B (g 21) (g 23) (g 25) (g 27) W ∧ (g 0 = true → v29 = .pointer (some ⟨w.heap.size, 0, none⟩)) ∧ (g 1 = true → v30 = .int .u64 a.a0) ∧ (g 2 = true → v31 = .pointer (some ⟨w.heap.size + 1, 0, none⟩)) ∧ (g 3 = true → v32 = .int .u64 b.a0) ∧ (g 4 = true → v33 = .int .u64 m0) ∧ (g 5 = true → v34 = .pointer (some ⟨w.heap.size, 1, none⟩)) ∧ (g 6 = true → v35 = .int .u64 a.a1) ∧ (g 7 = true → v36 = .pointer (some ⟨w.heap.size + 1, 1, none⟩)) ∧ (g 8 = true → v37 = .int .u64 b.a1) ∧ (g 9 = true → v38 = .int .u64 m1) ∧ (g 10 = true → v39 = .pointer (some ⟨w.heap.size, 2, none⟩)) ∧ (g 11 = true → v40 = .int .u64 a.a2) ∧ (g 12 = true → v41 = .pointer (some ⟨w.heap.size + 1, 2, none⟩)) ∧ (g 13 = true → v42 = .int .u64 b.a2) ∧ (g 14 = true → v43 = .int .u64 m2) ∧ (g 15 = true → v44 = .pointer (some ⟨w.heap.size, 4, none⟩)) ∧ (g 16 = true → v45 = .int .u64 a.a4) ∧ (g 17 = true → v46 = .pointer (some ⟨w.heap.size + 1, 4, none⟩)) ∧ (g 18 = true → v47 = .int .u64 b.a4) ∧ (g 19 = true → v48 = .int .u64 m4) ∧ (g 20 = true → v49 = .pointer (some ⟨B, 0, none⟩)) ∧ (g 22 = true → v50 = .pointer (some ⟨B, 1, none⟩)) ∧ (g 24 = true → v51 = .pointer (some ⟨B, 2, none⟩)) ∧ (g 26 = true → v52 = .pointer (some ⟨B, 4, none⟩))
set_option linter.unusedSimpArgs false in
set_option maxRecDepth 100000 in
set_option maxHeartbeats 4000000 in
theorem both_any (a b : Exp.Ex) (ha : a.Bd) (hb : b.Bd) (w : World) (x : Exp.Ex) (is : Bool) (e : Nat) (hr : Exp.both a b = (x, is, e)) :
    Calls Tryz.prog 32 #[.agg #[.int .u64 a.a0, .int .u64 a.a1, .int .u64 a.a2, .int .u64 a.a3, .int .u64 a.a4, .int .u64 a.a5, .bool a.b3, .bool a.b5], .agg #[.int .u64 b.a0, .int .u64 b.a1, .int .u64 b.a2, .int .u64 b.a3, .int .u64 b.a4, .int .u64 b.a5, .bool b.b3, .bool b.b5]] w fun r w' => r = .returned (.tuple #[.agg #[.int .u64 x.a0, .int .u64 x.a1, .int .u64 x.a2, .int .u64 x.a3, .int .u64 x.a4, .int .u64 x.a5, .bool x.b3, .bool x.b5], .bool is, .int .i64 e]) ∧ Below w.heap.size w w' := by
  have HW := Lib.hid (wd0 w a b)
  have HR := Lib.hid hr
  have HA := Lib.hid ha
  have HBB := Lib.hid hb
  obtain ⟨oa, hoa⟩ : ∃ o, a.okB = o := ⟨_, rfl⟩
  obtain ⟨ob, hob⟩ : ∃ o, b.okB = o := ⟨_, rfl⟩
  have CA := Lib.hid (fun (W : World) (h : WD w a b W) => p_check h a ha)
  have CB := Lib.hid (fun (W : World) (h : WD w a b W) => p_check h b hb)
  rw [hoa] at CA
  rw [hob] at CB
  unfold Exp.both at HR
  rw [hoa, hob] at HR
  obtain ⟨⟨v, vi⟩, hv⟩ : ∃ r, Exp.withD a b = r := ⟨_, rfl⟩
  rw [hv] at HR
  have WA := Lib.hid (fun (W : World) => with_any a b ha hb W v vi hv)
  have e0 : errOk true = 0 := rfl
  have e16 : errOk false = 16 := rfl
  clear hr ha hb hoa hob hv
  go_enter Tryz.func32, Tryz.ntmps32
  have c0 := HW.out.ra.cell 0; have c1 := HW.out.ra.cell 1; have c2 := HW.out.ra.cell 2; have c3 := HW.out.ra.cell 3; have c4 := HW.out.ra.cell 4; have c5 := HW.out.ra.cell 5; have c6 := HW.out.ra.cell 6; have c7 := HW.out.ra.cell 7
  simp only [exL, List.getElem?_cons_zero, List.getElem?_cons_succ] at c0 c1 c2 c3 c4 c5 c6 c7
  go_wp2_with fail
  refine (CA.out _ HW.out).mono ?_
  rintro e' w1 ⟨rfl, hq⟩
  have HQ := Lib.hid hq
  clear HW c0 c1 c2 c3 c4 c5 c6 c7 hq
  cases oa
  case false =>
    have hr : (Exp.zero, false, 16) = (x, is, e) := HR.out
    simp only [Prod.mk.injEq] at hr
    obtain ⟨rfl, rfl, rfl⟩ := hr
    have n0 := HQ.out.res.cell 0; have n1 := HQ.out.res.cell 1; have n2 := HQ.out.res.cell 2; have n3 := HQ.out.res.cell 3; have n4 := HQ.out.res.cell 4; have n5 := HQ.out.res.cell 5; have n6 := HQ.out.res.cell 6; have n7 := HQ.out.res.cell 7
    have f0 := HQ.out.res.free 0; have f1 := HQ.out.res.free 1; have f2 := HQ.out.res.free 2; have f3 := HQ.out.res.free 3; have f4 := HQ.out.res.free 4; have f5 := HQ.out.res.free 5; have f6 := HQ.out.res.free 6; have f7 := HQ.out.res.free 7
    simp only [exL, Exp.zero, List.getElem?_cons_zero, List.getElem?_cons_succ, Int.natCast_zero] at n0 n1 n2 n3 n4 n5 n6 n7
    have HB := Lib.hid HQ.out.below
    go_wp2_with fail
    refine bodyPost_ret (v := .tuple #[.agg #[.int .u64 0, .int .u64 0, .int .u64 0, .int .u64 0, .int .u64 0, .int .u64 0, .bool false, .bool false], .bool false, .int .i64 (16 : Nat)]) (by simp [results, Tryz.results32, go_sem, n0, n1, n2, n3, n4, n5, n6, n7]) rfl ⟨rfl, ?_⟩
    have bl := HB.out
    repeat' refine bel_cell ?_ (by omega) _ _
    exact bl

  have d0 := HQ.out.rb.cell 0; have d1 := HQ.out.rb.cell 1; have d2 := HQ.out.rb.cell 2; have d3 := HQ.out.rb.cell 3; have d4 := HQ.out.rb.cell 4; have d5 := HQ.out.rb.cell 5; have d6 := HQ.out.rb.cell 6; have d7 := HQ.out.rb.cell 7
  simp only [exL, List.getElem?_cons_zero, List.getElem?_cons_succ] at d0 d1 d2 d3 d4 d5 d6 d7
  go_wp2_with fail
  refine (CB.out _ HQ.out).mono ?_
  rintro e' w2 ⟨rfl, hq⟩
  have HQ := Lib.hid hq
  clear d0 d1 d2 d3 d4 d5 d6 d7 hq
  cases ob
  case false =>
    have hr : (Exp.zero, false, 16) = (x, is, e) := HR.out
    simp only [Prod.mk.injEq] at hr
    obtain ⟨rfl, rfl, rfl⟩ := hr
    have n0 := HQ.out.res.cell 0; have n1 := HQ.out.res.cell 1; have n2 := HQ.out.res.cell 2; have n3 := HQ.out.res.cell 3; have n4 := HQ.out.res.cell 4; have n5 := HQ.out.res.cell 5; have n6 := HQ.out.res.cell 6; have n7 := HQ.out.res.cell 7
    have f0 := HQ.out.res.free 0; have f1 := HQ.out.res.free 1; have f2 := HQ.out.res.free 2; have f3 := HQ.out.res.free 3; have f4 := HQ.out.res.free 4; have f5 := HQ.out.res.free 5; have f6 := HQ.out.res.free 6; have f7 := HQ.out.res.free 7
    simp only [exL, Exp.zero, List.getElem?_cons_zero, List.getElem?_cons_succ, Int.natCast_zero] at n0 n1 n2 n3 n4 n5 n6 n7
    have HB := Lib.hid HQ.out.below
    go_wp2_with fail
    refine bodyPost_ret (v := .tuple #[.agg #[.int .u64 0, .int .u64 0, .int .u64 0, .int .u64 0, .int .u64 0, .int .u64 0, .bool false, .bool false], .bool false, .int .i64 (16 : Nat)]) (by simp [results, Tryz.results32, go_sem, n0, n1, n2, n3, n4, n5, n6, n7]) rfl ⟨rfl, ?_⟩
    have bl := HB.out
    repeat' refine bel_cell ?_ (by omega) _ _
    exact bl

  have c0 := HQ.out.ra.cell 0; have c1 := HQ.out.ra.cell 1; have c2 := HQ.out.ra.cell 2; have c3 := HQ.out.ra.cell 3; have c4 := HQ.out.ra.cell 4; have c5 := HQ.out.ra.cell 5; have c6 := HQ.out.ra.cell 6; have c7 := HQ.out.ra.cell 7
  have d0 := HQ.out.rb.cell 0; have d1 := HQ.out.rb.cell 1; have d2 := HQ.out.rb.cell 2; have d3 := HQ.out.rb.cell 3; have d4 := HQ.out.rb.cell 4; have d5 := HQ.out.rb.cell 5; have d6 := HQ.out.rb.cell 6; have d7 := HQ.out.rb.cell 7
  simp only [exL, List.getElem?_cons_zero, List.getElem?_cons_succ] at c0 c1 c2 c3 c4 c5 c6 c7 d0 d1 d2 d3 d4 d5 d6 d7
  go_wp2_with fail
  refine (WA.out _).mono ?_
  rintro e' w3 ⟨rfl, hq⟩
  have HQ := Lib.hid (HQ.out.next hq)
  clear c0 c1 c2 c3 c4 c5 c6 c7 d0 d1 d2 d3 d4 d5 d6 d7 hq CA CB WA e0 e16
  have AL := (Below.refl w3.heap.size w3).alloc (Nat.le_refl _) (.cells #[.int .u64 v.a0, .int .u64 v.a1, .int .u64 v.a2, .int .u64 v.a3, .int .u64 v.a4, .int .u64 v.a5, .bool v.b3, .bool v.b5] 25)
  have RV := Row.new w3 (exL v) 25
  have lz := HQ.out.res.lt
  have HQ3 := HQ
  have HQ := Lib.hid (HQ.out.next AL)
  obtain ⟨B, hB⟩ : ∃ B, w3.heap.size = B := ⟨_, rfl⟩
  rw [hB] at RV lz
  have b1 : w.heap.size ≠ B := by omega
  have b2 : w.heap.size + 1 ≠ B := by omega
  have b3 : w.heap.size + 1 + 1 ≠ B := by omega
  have b4 : B ≠ w.heap.size := by omega
  have b5 : B ≠ w.heap.size + 1 := by omega
  have b6 : B ≠ w.heap.size + 1 + 1 := by omega
  have b7 : w.heap.size ≤ B := by omega
  have HV := Lib.hid RV
  have b8 : w.heap.size + 1 + 1 < B := by omega
  clear AL RV lz
  cases vi
  case false =>
    have hr : (Exp.zero, false, 2) = (x, is, e) := HR.out
    simp only [Prod.mk.injEq] at hr
    obtain ⟨rfl, rfl, rfl⟩ := hr
    have n0 := HQ3.out.res.cell 0; have n1 := HQ3.out.res.cell 1; have n2 := HQ3.out.res.cell 2; have n3 := HQ3.out.res.cell 3; have n4 := HQ3.out.res.cell 4; have n5 := HQ3.out.res.cell 5; have n6 := HQ3.out.res.cell 6; have n7 := HQ3.out.res.cell 7
    have f0 := HQ3.out.res.free 0; have f1 := HQ3.out.res.free 1; have f2 := HQ3.out.res.free 2; have f3 := HQ3.out.res.free 3; have f4 := HQ3.out.res.free 4; have f5 := HQ3.out.res.free 5; have f6 := HQ3.out.res.free 6; have f7 := HQ3.out.res.free 7
    simp only [exL, Exp.zero, List.getElem?_cons_zero, List.getElem?_cons_succ, Int.natCast_zero] at n0 n1 n2 n3 n4 n5 n6 n7
    have N0 := HQ.out.res.cell 0; have N1 := HQ.out.res.cell 1; have N2 := HQ.out.res.cell 2; have N3 := HQ.out.res.cell 3; have N4 := HQ.out.res.cell 4; have N5 := HQ.out.res.cell 5; have N6 := HQ.out.res.cell 6; have N7 := HQ.out.res.cell 7
    have F0 := HQ.out.res.free 0; have F1 := HQ.out.res.free 1; have F2 := HQ.out.res.free 2; have F3 := HQ.out.res.free 3; have F4 := HQ.out.res.free 4; have F5 := HQ.out.res.free 5; have F6 := HQ.out.res.free 6; have F7 := HQ.out.res.free 7
    simp only [exL, Exp.zero, List.getElem?_cons_zero, List.getElem?_cons_succ, Int.natCast_zero] at N0 N1 N2 N3 N4 N5 N6 N7
    have ne : w.heap.size + 1 + 1 ≠ w3.heap.size := by omega
    have ne' : w3.heap.size ≠ w.heap.size + 1 + 1 := by omega
    have HB := Lib.hid HQ3.out.below
    go_wp2_with fail
    have RR := (set8_row HQ3.out.res (.int .u64 0) (.int .u64 0) (.int .u64 0) (.int .u64 0) (.int .u64 0) (.int .u64 0) (.bool false) (.bool false)).alloc (.cells #[.int .u64 v.a0, .int .u64 v.a1, .int .u64 v.a2, .int .u64 v.a3, .int .u64 v.a4, .int .u64 v.a5, .bool v.b3, .bool v.b5] 25)
    have m0 := RR.cell 0; have m1 := RR.cell 1; have m2 := RR.cell 2; have m3 := RR.cell 3; have m4 := RR.cell 4; have m5 := RR.cell 5; have m6 := RR.cell 6; have m7 := RR.cell 7
    simp only [List.getElem?_cons_zero, List.getElem?_cons_succ] at m0 m1 m2 m3 m4 m5 m6 m7
    refine bodyPost_ret (v := .tuple #[.agg #[.int .u64 0, .int .u64 0, .int .u64 0, .int .u64 0, .int .u64 0, .int .u64 0, .bool false, .bool false], .bool false, .int .i64 (2 : Nat)]) (by simp [results, Tryz.results32, go_sem, m0, m1, m2, m3, m4, m5, m6, m7]) rfl ⟨rfl, ?_⟩
    have bl := HB.out
    have bz := bl.size
    refine Below.alloc ?_ (by simpa using bz) _
    repeat' refine bel_cell ?_ (by omega) _ _
    exact bl

  go_wp2_with fail
  obtain ⟨W4, hW4⟩ : ∃ W4, w3.alloc (.cells #[.int .u64 v.a0, .int .u64 v.a1, .int .u64 v.a2, .int .u64 v.a3, .int .u64 v.a4, .int .u64 v.a5, .bool v.b3, .bool v.b5] 25) = W4 := ⟨_, rfl⟩
  rw [show (.cells (exL v).toArray 25 : Obj) = .cells #[.int .u64 v.a0, .int .u64 v.a1, .int .u64 v.a2, .int .u64 v.a3, .int .u64 v.a4, .int .u64 v.a5, .bool v.b3, .bool v.b5] 25 from rfl] at HV
  rw [hW4] at HQ HV ⊢
  clear hW4 hB
  have c0 := HQ.out.ra.cell 0; have c1 := HQ.out.ra.cell 1; have c2 := HQ.out.ra.cell 2; have c4 := HQ.out.ra.cell 4
  have d0 := HQ.out.rb.cell 0; have d1 := HQ.out.rb.cell 1; have d2 := HQ.out.rb.cell 2; have d4 := HQ.out.rb.cell 4
  have v0 := HV.out.cell 0; have v1 := HV.out.cell 1; have v2 := HV.out.cell 2; have v4 := HV.out.cell 4
  have z0 := HV.out.free 0; have z1 := HV.out.free 1; have z2 := HV.out.free 2; have z4 := HV.out.free 4
  simp only [exL, List.getElem?_cons_zero, List.getElem?_cons_succ] at c0 c1 c2 c4 d0 d1 d2 d4 v0 v1 v2 v4
  obtain ⟨m0, h0⟩ : ∃ m, a.a0 &&& b.a0 = m := ⟨_, rfl⟩
  obtain ⟨m1, h1⟩ : ∃ m, a.a1 &&& b.a1 = m := ⟨_, rfl⟩
  obtain ⟨m2, h2⟩ : ∃ m, a.a2 &&& b.a2 = m := ⟨_, rfl⟩
  obtain ⟨m4, h4⟩ : ∃ m, a.a4 &&& b.a4 = m := ⟨_, rfl⟩
  have a0 : bits .and .u64 (a.a0 : Int) (b.a0 : Int) = (m0 : Nat) := by rw [← h0]; exact u64_and_nat _ _ (HA.out 0 (by decide)) (HBB.out 0 (by decide))
  have a1 : bits .and .u64 (a.a1 : Int) (b.a1 : Int) = (m1 : Nat) := by rw [← h1]; exact u64_and_nat _ _ (HA.out 1 (by decide)) (HBB.out 1 (by decide))
  have a2 : bits .and .u64 (a.a2 : Int) (b.a2 : Int) = (m2 : Nat) := by rw [← h2]; exact u64_and_nat _ _ (HA.out 2 (by decide)) (HBB.out 2 (by decide))
  have a4 : bits .and .u64 (a.a4 : Int) (b.a4 : Int) = (m4 : Nat) := by rw [← h4]; exact u64_and_nat _ _ (HA.out 4 (by decide)) (HBB.out 4 (by decide))
  have HJ : Hid (Exp.join v a b = ⟨m0, m1, m2, v.a3, m4, v.a5, v.b3, v.b5⟩) := Lib.hid (by unfold Exp.join; rw [h0, h1, h2, h4])
  clear h0 h1 h2 h4 HA HBB
  refine wp_region_inv (BInv w a b v m0 m1 m2 m4 B) (by kernel_rfl) ?i0 ?step ?last ?topo
  case i0 => exact ⟨_, _, _, _, _, _, _, _, _, _, _, _, _, _, _, _, _, _, _, _, _, _, _, _, rfl, ⟨HQ.out.drew, b8, HV.out.drew⟩, (fun h => by cases h), (fun h => by cases h), (fun h => by cases h), (fun h => by cases h), (fun h => by cases h), (fun h => by cases h), (fun h => by cases h), (fun h => by cases h), (fun h => by cases h), (fun h => by cases h), (fun h => by cases h), (fun h => by cases h), (fun h => by cases h), (fun h => by cases h), (fun h => by cases h), (fun h => by cases h), (fun h => by cases h), (fun h => by cases h), (fun h => by cases h), (fun h => by cases h), (fun h => by cases h), (fun h => by cases h), (fun h => by cases h), (fun h => by cases h)⟩
  case topo => kernel_rfl
  case step =>
    intro i o g c W ho hI hg hdep K' hK
    obtain ⟨v29, v30, v31, v32, v33, v34, v35, v36, v37, v38, v39, v40, v41, v42, v43, v44, v45, v46, v47, v48, v49, v50, v51, v52, rfl, hM, q0, q1, q2, q3, q4, q5, q6, q7, q8, q9, q10, q11, q12, q13, q14, q15, q16, q17, q18, q19, q20, q22, q24, q26⟩ := hI
    have hi : i < 28 := (Array.getElem?_eq_some_iff.1 ho).1
    rcases (show i = 0 ∨ i = 1 ∨ i = 2 ∨ i = 3 ∨ i = 4 ∨ i = 5 ∨ i = 6 ∨ i = 7 ∨ i = 8 ∨ i = 9 ∨ i = 10 ∨ i = 11 ∨ i = 12 ∨ i = 13 ∨ i = 14 ∨ i = 15 ∨ i = 16 ∨ i = 17 ∨ i = 18 ∨ i = 19 ∨ i = 20 ∨ i = 21 ∨ i = 22 ∨ i = 23 ∨ i = 24 ∨ i = 25 ∨ i = 26 ∨ i = 27 by omega) with rfl | rfl | rfl | rfl | rfl | rfl | rfl | rfl | rfl | rfl | rfl | rfl | rfl | rfl | rfl | rfl | rfl | rfl | rfl | rfl | rfl | rfl | rfl | rfl | rfl | rfl | rfl | rfl
    · simp only [List.getElem?_toArray, List.getElem?_cons_zero, Option.some.injEq] at ho
      subst ho
      clear hdep
      go_simp
      exact hK.out _ _ ⟨_, _, _, _, _, _, _, _, _, _, _, _, _, _, _, _, _, _, _, _, _, _, _, _, rfl, hM, fun _ => rfl, q1, q2, q3, q4, q5, q6, q7, q8, q9, q10, q11, q12, q13, q14, q15, q16, q17, q18, q19, q20, q22, q24, q26⟩
    · simp only [List.getElem?_toArray, List.getElem?_cons_zero, List.getElem?_cons_succ, Option.some.injEq] at ho
      subst ho
      have r0 := q0 (hdep ⟨0, .data⟩ (by simp) rfl)
      subst r0
      clear hdep
      have u := hM.wd.ra.cell 0
      simp only [exL, List.getElem?_cons_zero, List.getElem?_cons_succ] at u
      go_simp
      exact hK.out _ _ ⟨_, _, _, _, _, _, _, _, _, _, _, _, _, _, _, _, _, _, _, _, _, _, _, _, rfl, hM, q0, fun _ => rfl, q2, q3, q4, q5, q6, q7, q8, q9, q10, q11, q12, q13, q14, q15, q16, q17, q18, q19, q20, q22, q24, q26⟩
    · simp only [List.getElem?_toArray, List.getElem?_cons_zero, List.getElem?_cons_succ, Option.some.injEq] at ho
      subst ho
      clear hdep
      go_simp
      exact hK.out _ _ ⟨_, _, _, _, _, _, _, _, _, _, _, _, _, _, _, _, _, _, _, _, _, _, _, _, rfl, hM, q0, q1, fun _ => rfl, q3, q4, q5, q6, q7, q8, q9, q10, q11, q12, q13, q14, q15, q16, q17, q18, q19, q20, q22, q24, q26⟩
    · simp only [List.getElem?_toArray, List.getElem?_cons_zero, List.getElem?_cons_succ, Option.some.injEq] at ho
      subst ho
      have r2 := q2 (hdep ⟨2, .data⟩ (by simp) rfl)
      subst r2
      clear hdep
      have u := hM.wd.rb.cell 0
      simp only [exL, List.getElem?_cons_zero, List.getElem?_cons_succ] at u
      go_simp
      exact hK.out _ _ ⟨_, _, _, _, _, _, _, _, _, _, _, _, _, _, _, _, _, _, _, _, _, _, _, _, rfl, hM, q0, q1, q2, fun _ => rfl, q4, q5, q6, q7, q8, q9, q10, q11, q12, q13, q14, q15, q16, q17, q18, q19, q20, q22, q24, q26⟩
    · simp only [List.getElem?_toArray, List.getElem?_cons_zero, List.getElem?_cons_succ, Option.some.injEq] at ho
      subst ho
      have r1 := q1 (hdep ⟨1, .data⟩ (by simp) rfl)
      subst r1
      have r3 := q3 (hdep ⟨3, .data⟩ (by simp) rfl)
      subst r3
      clear hdep
      go_simp
      exact hK.out _ _ ⟨_, _, _, _, _, _, _, _, _, _, _, _, _, _, _, _, _, _, _, _, _, _, _, _, rfl, hM, q0, q1, q2, q3, fun _ => rfl, q5, q6, q7, q8, q9, q10, q11, q12, q13, q14, q15, q16, q17, q18, q19, q20, q22, q24, q26⟩
    · simp only [List.getElem?_toArray, List.getElem?_cons_zero, List.getElem?_cons_succ, Option.some.injEq] at ho
      subst ho
      clear hdep
      go_simp
      exact hK.out _ _ ⟨_, _, _, _, _, _, _, _, _, _, _, _, _, _, _, _, _, _, _, _, _, _, _, _, rfl, hM, q0, q1, q2, q3, q4, fun _ => rfl, q6, q7, q8, q9, q10, q11, q12, q13, q14, q15, q16, q17, q18, q19, q20, q22, q24, q26⟩
    · simp only [List.getElem?_toArray, List.getElem?_cons_zero, List.getElem?_cons_succ, Option.some.injEq] at ho
      subst ho
      have r5 := q5 (hdep ⟨5, .data⟩ (by simp) rfl)
      subst r5
      clear hdep
      have u := hM.wd.ra.cell 1
      simp only [exL, List.getElem?_cons_zero, List.getElem?_cons_succ] at u
      go_simp
      exact hK.out _ _ ⟨_, _, _, _, _, _, _, _, _, _, _, _, _, _, _, _, _, _, _, _, _, _, _, _, rfl, hM, q0, q1, q2, q3, q4, q5, fun _ => rfl, q7, q8, q9, q10, q11, q12, q13, q14, q15, q16, q17, q18, q19, q20, q22, q24, q26⟩
    · simp only [List.getElem?_toArray, List.getElem?_cons_zero, List.getElem?_cons_succ, Option.some.injEq] at ho
      subst ho
      clear hdep
      go_simp
      exact hK.out _ _ ⟨_, _, _, _, _, _, _, _, _, _, _, _, _, _, _, _, _, _, _, _, _, _, _, _, rfl, hM, q0, q1, q2, q3, q4, q5, q6, fun _ => rfl, q8, q9, q10, q11, q12, q13, q14, q15, q16, q17, q18, q19, q20, q22, q24, q26⟩
    · simp only [List.getElem?_toArray, List.getElem?_cons_zero, List.getElem?_cons_succ, Option.some.injEq] at ho
      subst ho
      have r7 := q7 (hdep ⟨7, .data⟩ (by simp) rfl)
      subst r7
      clear hdep
      have u := hM.wd.rb.cell 1
      simp only [exL, List.getElem?_cons_zero, List.getElem?_cons_succ] at u
      go_simp
      exact hK.out _ _ ⟨_, _, _, _, _, _, _, _, _, _, _, _, _, _, _, _, _, _, _, _, _, _, _, _, rfl, hM, q0, q1, q2, q3, q4, q5, q6, q7, fun _ => rfl, q9, q10, q11, q12, q13, q14, q15, q16, q17, q18, q19, q20, q22, q24, q26⟩
    · simp only [List.getElem?_toArray, List.getElem?_cons_zero, List.getElem?_cons_succ, Option.some.injEq] at ho
      subst ho
      have r6 := q6 (hdep ⟨6, .data⟩ (by simp) rfl)
      subst r6
      have r8 := q8 (hdep ⟨8, .data⟩ (by simp) rfl)
      subst r8
      clear hdep
      go_simp
      exact hK.out _ _ ⟨_, _, _, _, _, _, _, _, _, _, _, _, _, _, _, _, _, _, _, _, _, _, _, _, rfl, hM, q0, q1, q2, q3, q4, q5, q6, q7, q8, fun _ => rfl, q10, q11, q12, q13, q14, q15, q16, q17, q18, q19, q20, q22, q24, q26⟩
    · simp only [List.getElem?_toArray, List.getElem?_cons_zero, List.getElem?_cons_succ, Option.some.injEq] at ho
      subst ho
      clear hdep
      go_simp
      exact hK.out _ _ ⟨_, _, _, _, _, _, _, _, _, _, _, _, _, _, _, _, _, _, _, _, _, _, _, _, rfl, hM, q0, q1, q2, q3, q4, q5, q6, q7, q8, q9, fun _ => rfl, q11, q12, q13, q14, q15, q16, q17, q18, q19, q20, q22, q24, q26⟩
    · simp only [List.getElem?_toArray, List.getElem?_cons_zero, List.getElem?_cons_succ, Option.some.injEq] at ho
      subst ho
      have r10 := q10 (hdep ⟨10, .data⟩ (by simp) rfl)
      subst r10
      clear hdep
      have u := hM.wd.ra.cell 2
      simp only [exL, List.getElem?_cons_zero, List.getElem?_cons_succ] at u
      go_simp
      exact hK.out _ _ ⟨_, _, _, _, _, _, _, _, _, _, _, _, _, _, _, _, _, _, _, _, _, _, _, _, rfl, hM, q0, q1, q2, q3, q4, q5, q6, q7, q8, q9, q10, fun _ => rfl, q12, q13, q14, q15, q16, q17, q18, q19, q20, q22, q24, q26⟩
    · simp only [List.getElem?_toArray, List.getElem?_cons_zero, List.getElem?_cons_succ, Option.some.injEq] at ho
      subst ho
      clear hdep
      go_simp
      exact hK.out _ _ ⟨_, _, _, _, _, _, _, _, _, _, _, _, _, _, _, _, _, _, _, _, _, _, _, _, rfl, hM, q0, q1, q2, q3, q4, q5, q6, q7, q8, q9, q10, q11, fun _ => rfl, q13, q14, q15, q16, q17, q18, q19, q20, q22, q24, q26⟩
    · simp only [List.getElem?_toArray, List.getElem?_cons_zero, List.getElem?_cons_succ, Option.some.injEq] at ho
      subst ho
      have r12 := q12 (hdep ⟨12, .data⟩ (by simp) rfl)
      subst r12
      clear hdep
      have u := hM.wd.rb.cell 2
      simp only [exL, List.getElem?_cons_zero, List.getElem?_cons_succ] at u
      go_simp
      exact hK.out _ _ ⟨_, _, _, _, _, _, _, _, _, _, _, _, _, _, _, _, _, _, _, _, _, _, _, _, rfl, hM, q0, q1, q2, q3, q4, q5, q6, q7, q8, q9, q10, q11, q12, fun _ => rfl, q14, q15, q16, q17, q18, q19, q20, q22, q24, q26⟩
    · simp only [List.getElem?_toArray, List.getElem?_cons_zero, List.getElem?_cons_succ, Option.some.injEq] at ho
      subst ho
      have r11 := q11 (hdep ⟨11, .data⟩ (by simp) rfl)
      subst r11
      have r13 := q13 (hdep ⟨13, .data⟩ (by simp) rfl)
      subst r13
      clear hdep
      go_simp
      exact hK.out _ _ ⟨_, _, _, _, _, _, _, _, _, _, _, _, _, _, _, _, _, _, _, _, _, _, _, _, rfl, hM, q0, q1, q2, q3, q4, q5, q6, q7, q8, q9, q10, q11, q12, q13, fun _ => rfl, q15, q16, q17, q18, q19, q20, q22, q24, q26⟩
    · simp only [List.getElem?_toArray, List.getElem?_cons_zero, List.getElem?_cons_succ, Option.some.injEq] at ho
      subst ho
      clear hdep
      go_simp
      exact hK.out _ _ ⟨_, _, _, _, _, _, _, _, _, _, _, _, _, _, _, _, _, _, _, _, _, _, _, _, rfl, hM, q0, q1, q2, q3, q4, q5, q6, q7, q8, q9, q10, q11, q12, q13, q14, fun _ => rfl, q16, q17, q18, q19, q20, q22, q24, q26⟩
    · simp only [List.getElem?_toArray, List.getElem?_cons_zero, List.getElem?_cons_succ, Option.some.injEq] at ho
      subst ho
      have r15 := q15 (hdep ⟨15, .data⟩ (by simp) rfl)
      subst r15
      clear hdep
      have u := hM.wd.ra.cell 4
      simp only [exL, List.getElem?_cons_zero, List.getElem?_cons_succ] at u
      go_simp
      exact hK.out _ _ ⟨_, _, _, _, _, _, _, _, _, _, _, _, _, _, _, _, _, _, _, _, _, _, _, _, rfl, hM, q0, q1, q2, q3, q4, q5, q6, q7, q8, q9, q10, q11, q12, q13, q14, q15, fun _ => rfl, q17, q18, q19, q20, q22, q24, q26⟩
    · simp only [List.getElem?_toArray, List.getElem?_cons_zero, List.getElem?_cons_succ, Option.some.injEq] at ho
      subst ho
      clear hdep
      go_simp
      exact hK.out _ _ ⟨_, _, _, _, _, _, _, _, _, _, _, _, _, _, _, _, _, _, _, _, _, _, _, _, rfl, hM, q0, q1, q2, q3, q4, q5, q6, q7, q8, q9, q10, q11, q12, q13, q14, q15, q16, fun _ => rfl, q18, q19, q20, q22, q24, q26⟩
    · simp only [List.getElem?_toArray, List.getElem?_cons_zero, List.getElem?_cons_succ, Option.some.injEq] at ho
      subst ho
      have r17 := q17 (hdep ⟨17, .data⟩ (by simp) rfl)
      subst r17
      clear hdep
      have u := hM.wd.rb.cell 4
      simp only [exL, List.getElem?_cons_zero, List.getElem?_cons_succ] at u
      go_simp
      exact hK.out _ _ ⟨_, _, _, _, _, _, _, _, _, _, _, _, _, _, _, _, _, _, _, _, _, _, _, _, rfl, hM, q0, q1, q2, q3, q4, q5, q6, q7, q8, q9, q10, q11, q12, q13, q14, q15, q16, q17, fun _ => rfl, q19, q20, q22, q24, q26⟩
    · simp only [List.getElem?_toArray, List.getElem?_cons_zero, List.getElem?_cons_succ, Option.some.injEq] at ho
      subst ho
      have r16 := q16 (hdep ⟨16, .data⟩ (by simp) rfl)
      subst r16
      have r18 := q18 (hdep ⟨18, .data⟩ (by simp) rfl)
      subst r18
      clear hdep
      go_simp
      exact hK.out _ _ ⟨_, _, _, _, _, _, _, _, _, _, _, _, _, _, _, _, _, _, _, _, _, _, _, _, rfl, hM, q0, q1, q2, q3, q4, q5, q6, q7, q8, q9, q10, q11, q12, q13, q14, q15, q16, q17, q18, fun _ => rfl, q20, q22, q24, q26⟩
    · simp only [List.getElem?_toArray, List.getElem?_cons_zero, List.getElem?_cons_succ, Option.some.injEq] at ho
      subst ho
      clear hdep
      go_simp
      exact hK.out _ _ ⟨_, _, _, _, _, _, _, _, _, _, _, _, _, _, _, _, _, _, _, _, _, _, _, _, rfl, hM, q0, q1, q2, q3, q4, q5, q6, q7, q8, q9, q10, q11, q12, q13, q14, q15, q16, q17, q18, q19, fun _ => rfl, q22, q24, q26⟩
    · simp only [List.getElem?_toArray, List.getElem?_cons_zero, List.getElem?_cons_succ, Option.some.injEq] at ho
      subst ho
      have r4 := q4 (hdep ⟨4, .data⟩ (by simp) rfl)
      subst r4
      have r20 := q20 (hdep ⟨20, .data⟩ (by simp) rfl)
      subst r20
      clear hdep
      have u := hM.row.cell 0
      have f := hM.row.free 0
      simp only [List.getElem?_cons_zero, List.getElem?_cons_succ] at u
      go_simp
      exact hK.out _ _ ⟨_, _, _, _, _, _, _, _, _, _, _, _, _, _, _, _, _, _, _, _, _, _, _, _, rfl, hM.set0, q0, q1, q2, q3, q4, q5, q6, q7, q8, q9, q10, q11, q12, q13, q14, q15, q16, q17, q18, q19, q20, q22, q24, q26⟩
    · simp only [List.getElem?_toArray, List.getElem?_cons_zero, List.getElem?_cons_succ, Option.some.injEq] at ho
      subst ho
      clear hdep
      go_simp
      exact hK.out _ _ ⟨_, _, _, _, _, _, _, _, _, _, _, _, _, _, _, _, _, _, _, _, _, _, _, _, rfl, hM, q0, q1, q2, q3, q4, q5, q6, q7, q8, q9, q10, q11, q12, q13, q14, q15, q16, q17, q18, q19, q20, fun _ => rfl, q24, q26⟩
    · simp only [List.getElem?_toArray, List.getElem?_cons_zero, List.getElem?_cons_succ, Option.some.injEq] at ho
      subst ho
      have r9 := q9 (hdep ⟨9, .data⟩ (by simp) rfl)
      subst r9
      have r22 := q22 (hdep ⟨22, .data⟩ (by simp) rfl)
      subst r22
      clear hdep
      have u := hM.row.cell 1
      have f := hM.row.free 1
      simp only [List.getElem?_cons_zero, List.getElem?_cons_succ] at u
      go_simp
      exact hK.out _ _ ⟨_, _, _, _, _, _, _, _, _, _, _, _, _, _, _, _, _, _, _, _, _, _, _, _, rfl, hM.set1, q0, q1, q2, q3, q4, q5, q6, q7, q8, q9, q10, q11, q12, q13, q14, q15, q16, q17, q18, q19, q20, q22, q24, q26⟩
    · simp only [List.getElem?_toArray, List.getElem?_cons_zero, List.getElem?_cons_succ, Option.some.injEq] at ho
      subst ho
      clear hdep
      go_simp
      exact hK.out _ _ ⟨_, _, _, _, _, _, _, _, _, _, _, _, _, _, _, _, _, _, _, _, _, _, _, _, rfl, hM, q0, q1, q2, q3, q4, q5, q6, q7, q8, q9, q10, q11, q12, q13, q14, q15, q16, q17, q18, q19, q20, q22, fun _ => rfl, q26⟩
    · simp only [List.getElem?_toArray, List.getElem?_cons_zero, List.getElem?_cons_succ, Option.some.injEq] at ho
      subst ho
      have r14 := q14 (hdep ⟨14, .data⟩ (by simp) rfl)
      subst r14
      have r24 := q24 (hdep ⟨24, .data⟩ (by simp) rfl)
      subst r24
      clear hdep
      have u := hM.row.cell 2
      have f := hM.row.free 2
      simp only [List.getElem?_cons_zero, List.getElem?_cons_succ] at u
      go_simp
      exact hK.out _ _ ⟨_, _, _, _, _, _, _, _, _, _, _, _, _, _, _, _, _, _, _, _, _, _, _, _, rfl, hM.set2, q0, q1, q2, q3, q4, q5, q6, q7, q8, q9, q10, q11, q12, q13, q14, q15, q16, q17, q18, q19, q20, q22, q24, q26⟩
    · simp only [List.getElem?_toArray, List.getElem?_cons_zero, List.getElem?_cons_succ, Option.some.injEq] at ho
      subst ho
      clear hdep
      go_simp
      exact hK.out _ _ ⟨_, _, _, _, _, _, _, _, _, _, _, _, _, _, _, _, _, _, _, _, _, _, _, _, rfl, hM, q0, q1, q2, q3, q4, q5, q6, q7, q8, q9, q10, q11, q12, q13, q14, q15, q16, q17, q18, q19, q20, q22, q24, fun _ => rfl⟩
    · simp only [List.getElem?_toArray, List.getElem?_cons_zero, List.getElem?_cons_succ, Option.some.injEq] at ho
      subst ho
      have r19 := q19 (hdep ⟨19, .data⟩ (by simp) rfl)
      subst r19
      have r26 := q26 (hdep ⟨26, .data⟩ (by simp) rfl)
      subst r26
      clear hdep
      have u := hM.row.cell 4
      have f := hM.row.free 4
      simp only [List.getElem?_cons_zero, List.getElem?_cons_succ] at u
      go_simp
      exact hK.out _ _ ⟨_, _, _, _, _, _, _, _, _, _, _, _, _, _, _, _, _, _, _, _, _, _, _, _, rfl, hM.set4, q0, q1, q2, q3, q4, q5, q6, q7, q8, q9, q10, q11, q12, q13, q14, q15, q16, q17, q18, q19, q20, q22, q24, q26⟩
  case last =>
    intro g c W hI hall
    obtain ⟨v29, v30, v31, v32, v33, v34, v35, v36, v37, v38, v39, v40, v41, v42, v43, v44, v45, v46, v47, v48, v49, v50, v51, v52, rfl, hM, q0, q1, q2, q3, q4, q5, q6, q7, q8, q9, q10, q11, q12, q13, q14, q15, q16, q17, q18, q19, q20, q22, q24, q26⟩ := hI
    have r0 := q0 (hall 0 (by decide))
    subst r0
    have r1 := q1 (hall 1 (by decide))
    subst r1
    have r2 := q2 (hall 2 (by decide))
    subst r2
    have r3 := q3 (hall 3 (by decide))
    subst r3
    have r4 := q4 (hall 4 (by decide))
    subst r4
    have r5 := q5 (hall 5 (by decide))
    subst r5
    have r6 := q6 (hall 6 (by decide))
    subst r6
    have r7 := q7 (hall 7 (by decide))
    subst r7
    have r8 := q8 (hall 8 (by decide))
    subst r8
    have r9 := q9 (hall 9 (by decide))
    subst r9
    have r10 := q10 (hall 10 (by decide))
    subst r10
    have r11 := q11 (hall 11 (by decide))
    subst r11
    have r12 := q12 (hall 12 (by decide))
    subst r12
    have r13 := q13 (hall 13 (by decide))
    subst r13
    have r14 := q14 (hall 14 (by decide))
    subst r14
    have r15 := q15 (hall 15 (by decide))
    subst r15
    have r16 := q16 (hall 16 (by decide))
    subst r16
    have r17 := q17 (hall 17 (by decide))
    subst r17
    have r18 := q18 (hall 18 (by decide))
    subst r18
    have r19 := q19 (hall 19 (by decide))
    subst r19
    have r20 := q20 (hall 20 (by decide))
    subst r20
    have r22 := q22 (hall 22 (by decide))
    subst r22
    have r24 := q24 (hall 24 (by decide))
    subst r24
    have r26 := q26 (hall 26 (by decide))
    subst r26
    clear q0 q1 q2 q3 q4 q5 q6 q7 q8 q9 q10 q11 q12 q13 q14 q15 q16 q17 q18 q19 q20 q22 q24 q26
    have g21 := hall 21 (by decide)
    have g23 := hall 23 (by decide)
    have g25 := hall 25 (by decide)
    have g27 := hall 27 (by decide)
    simp only [g21, g23, g25, g27] at hM
    obtain ⟨y, hy⟩ : ∃ y, Exp.join v a b = y := ⟨_, rfl⟩
    have Q0 : BW w y B W := ⟨hM.wd.below, hM.wd.res, by have r := hM.row; rw [← hy, HJ.out]; exact r⟩
    have Q := Lib.hid Q0
    have HR2 := HR.out
    simp only [Bool.and_self, if_true, hy] at HR2
    have HR3 := Lib.hid HR2
    clear g21 g23 g25 g27 hM hall HQ HV HR HR2 HJ hy Q0 a0 a1 a2 a4 c0 c1 c2 c4 d0 d1 d2 d4 v0 v1 v2 v4 z0 z1 z2 z4
    go_wp2_with fail
    refine (fields_any B _).mono ?_
    rintro e' w5 ⟨rfl, hq⟩
    have Q := Lib.hid (Q.out.next hq)
    clear hq
    go_wp2_with fail
    go_loopw [54] (fun i wr => ∃ k : Nat, k ≤ 6 ∧ i = .int .i64 k ∧ Hid (BW w y B wr) ∧ Hid (∀ j, j < k → y.at j ≠ 0)) (fun i _ => 6 - (intOf i).toNat)
    case atStart => exact ⟨0, Nat.zero_le _, rfl, Q, Lib.hid (fun j h => by omega)⟩
    case round =>
      obtain ⟨k, hk, rfl, Q, hg⟩ := hrel
      by_cases hlt : k < 6
      · have d := (Q.out.row.cell k).trans (exL_at y k hlt)
        have q1 : decide ((k : Int) < 6) = true := by rw [decide_eq_true_iff]; omega
        have q1n : decide (k < 6) = true := by rw [decide_eq_true_iff]; omega
        have i0 : (0 : Int) ≤ (k : Int) := by omega
        have i1 : (k : Int) < 6 := by omega
        have ix := ptr_index B k hlt
        have GD := Lib.hid (fun (h : y.at k ≠ 0) => fun j (hj : j < k + 1) => (by
          rcases Nat.lt_or_ge j k with a | a
          · exact hg.out j a
          · obtain rfl : j = k := by omega
            exact h : y.at j ≠ 0))
        have BD := Lib.hid (fun (h : y.at k = 0) => full_none hlt h)
        obtain ⟨A, hA⟩ : ∃ A, y.at k = A := ⟨_, rfl⟩
        rw [hA] at d GD BD
        clear hg hA
        by_cases z : A = 0
        · have nf := BD.out z
          have hr := HR3.out
          rw [if_neg (by rw [nf]; simp)] at hr
          simp only [Prod.mk.injEq] at hr
          obtain ⟨rfl, rfl, rfl⟩ := hr
          have t0 : ((A : Int) == 0) = true := by rw [beq_iff_eq]; omega
          have t0n : (A == 0) = true := by rw [beq_iff_eq]; omega
          have n0 := Q.out.res.cell 0; have n1 := Q.out.res.cell 1; have n2 := Q.out.res.cell 2; have n3 := Q.out.res.cell 3; have n4 := Q.out.res.cell 4; have n5 := Q.out.res.cell 5; have n6 := Q.out.res.cell 6; have n7 := Q.out.res.cell 7
          have f0 := Q.out.res.free 0; have f1 := Q.out.res.free 1; have f2 := Q.out.res.free 2; have f3 := Q.out.res.free 3; have f4 := Q.out.res.free 4; have f5 := Q.out.res.free 5; have f6 := Q.out.res.free 6; have f7 := Q.out.res.free 7
          simp only [exL, Exp.zero, List.getElem?_cons_zero, List.getElem?_cons_succ, Int.natCast_zero] at n0 n1 n2 n3 n4 n5 n6 n7
          clear z nf GD BD HR3
          go_wp2_with fail
          refine bodyPost_ret (v := .tuple #[.agg #[.int .u64 0, .int .u64 0, .int .u64 0, .int .u64 0, .int .u64 0, .int .u64 0, .bool false, .bool false], .bool false, .int .i64 (0 : Nat)]) (by simp [results, Tryz.results32, go_sem, n0, n1, n2, n3, n4, n5, n6, n7]) rfl ⟨rfl, ?_⟩
          have bl := Q.out.below
          repeat' refine bel_cell ?_ (by omega) _ _
          exact bl
        · have t0 : ((A : Int) == 0) = false := by rw [beq_eq_false_iff_ne]; omega
          have t0n : (A == 0) = false := by rw [beq_eq_false_iff_ne]; omega
          have OK := Lib.hid (GD.out z)
          clear z GD BD
          go_wp2_with fail
          go_roundw
          case rel => exact ⟨k + 1, by omega, by go_num, Q, OK⟩
          case measure => simp [intOf]; omega
      · obtain rfl : k = 6 := by omega
        have nf := full_all hg.out
        have hr := HR3.out
        rw [if_pos nf] at hr
        simp only [Prod.mk.injEq] at hr
        obtain ⟨rfl, rfl, rfl⟩ := hr
        have c0 := Q.out.row.cell 0; have c1 := Q.out.row.cell 1; have c2 := Q.out.row.cell 2; have c3 := Q.out.row.cell 3; have c4 := Q.out.row.cell 4; have c5 := Q.out.row.cell 5; have c6 := Q.out.row.cell 6; have c7 := Q.out.row.cell 7
        have n0 := Q.out.res.cell 0; have n1 := Q.out.res.cell 1; have n2 := Q.out.res.cell 2; have n3 := Q.out.res.cell 3; have n4 := Q.out.res.cell 4; have n5 := Q.out.res.cell 5; have n6 := Q.out.res.cell 6; have n7 := Q.out.res.cell 7
        have f0 := Q.out.res.free 0; have f1 := Q.out.res.free 1; have f2 := Q.out.res.free 2; have f3 := Q.out.res.free 3; have f4 := Q.out.res.free 4; have f5 := Q.out.res.free 5; have f6 := Q.out.res.free 6; have f7 := Q.out.res.free 7
        simp only [exL, Exp.zero, List.getElem?_cons_zero, List.getElem?_cons_succ, Int.natCast_zero] at c0 c1 c2 c3 c4 c5 c6 c7 n0 n1 n2 n3 n4 n5 n6 n7
        clear hg nf HR3
        go_wp2_with fail
        have RR := set8_row Q.out.res (.int .u64 y.a0) (.int .u64 y.a1) (.int .u64 y.a2) (.int .u64 y.a3) (.int .u64 y.a4) (.int .u64 y.a5) (.bool y.b3) (.bool y.b5)
        have m0 := RR.cell 0; have m1 := RR.cell 1; have m2 := RR.cell 2; have m3 := RR.cell 3; have m4 := RR.cell 4; have m5 := RR.cell 5; have m6 := RR.cell 6; have m7 := RR.cell 7
        simp only [List.getElem?_cons_zero, List.getElem?_cons_succ] at m0 m1 m2 m3 m4 m5 m6 m7
        refine bodyPost_ret (v := .tuple #[.agg #[.int .u64 y.a0, .int .u64 y.a1, .int .u64 y.a2, .int .u64 y.a3, .int .u64 y.a4, .int .u64 y.a5, .bool y.b3, .bool y.b5], .bool true, .int .i64 (0 : Nat)]) (by simp [results, Tryz.results32, go_sem, m0, m1, m2, m3, m4, m5, m6, m7]) rfl ⟨rfl, ?_⟩
        have bl := Q.out.below
        repeat' refine bel_cell ?_ (by omega) _ _
        exact bl
end Go.Proofs.YtpnfifhanmpapaaGreatDoor
