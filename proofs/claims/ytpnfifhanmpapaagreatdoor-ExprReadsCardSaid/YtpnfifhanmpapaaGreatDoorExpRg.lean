/- Contracts of Macro, Parse and Normal of wakemanref07, at every text of at most 500 bytes. -/
import Derived.Test.YtpnfifhanmpapaaGreatDoorExpRf
namespace Go.Proofs.YtpnfifhanmpapaaGreatDoor
open Go.ChangeShapes Go.WideShapes Go.RowKit Go.Shelf

set_option linter.unusedSimpArgs false in
set_option maxRecDepth 100000 in
set_option maxHeartbeats 4000000 in
theorem macro7_any (s : ByteArray) (x : Exp.Ex) (is : Bool) (hr : Exp.macR s.data.toList = (x, is)) (w : World) :
    Calls Tryz.prog 18 #[.string s] w fun r w' => r = .returned (.tuple #[.agg #[.int .u64 x.a0, .int .u64 x.a1, .int .u64 x.a2, .int .u64 x.a3, .int .u64 x.a4, .int .u64 x.a5, .bool x.b3, .bool x.b5], .bool is]) ∧ Below w.heap.size w w' := by
  have R : Row (w.alloc (.cells (exL Exp.zero).toArray 25)) w.heap.size 25 (exL Exp.zero) := Row.new w _ _
  have B1 : Below w.heap.size w (w.alloc (.cells (exL Exp.zero).toArray 25)) := (Below.refl _ w).alloc (Nat.le_refl _) _
  obtain ⟨t, ht⟩ : ∃ t : ByteArray, t.data.toList = (Exp.macro_ s.data.toList).getD [] := ⟨⟨((Exp.macro_ s.data.toList).getD []).toArray⟩, rfl⟩
  have TX := Lib.hid (fun W : World => texts7_any s t ht W)
  have HR := Lib.hid R
  have HB := Lib.hid B1
  unfold Exp.macR at hr
  obtain ⟨W0, hW0⟩ : ∃ W0, w.alloc (.cells #[.int .u64 0, .int .u64 0, .int .u64 0, .int .u64 0, .int .u64 0, .int .u64 0, .bool false, .bool false] 25) = W0 := ⟨_, rfl⟩
  rw [show w.alloc (.cells (exL Exp.zero).toArray 25) = W0 from hW0] at HR HB
  clear R B1
  cases h : Exp.macro_ s.data.toList with
  | none =>
    rw [h] at hr ht
    simp only [Prod.mk.injEq] at hr
    obtain ⟨rfl, rfl⟩ := hr
    have et : t = ⟨#[]⟩ := str_of7 ht.symm
    subst et
    have R := HR.out
    have n0 := R.cell 0; have n1 := R.cell 1; have n2 := R.cell 2; have n3 := R.cell 3; have n4 := R.cell 4; have n5 := R.cell 5; have n6 := R.cell 6; have n7 := R.cell 7
    have f0 := R.free 0; have f1 := R.free 1; have f2 := R.free 2; have f3 := R.free 3; have f4 := R.free 4; have f5 := R.free 5; have f6 := R.free 6; have f7 := R.free 7
    simp only [exL, Exp.zero, List.getElem?_cons_zero, List.getElem?_cons_succ, Int.natCast_zero] at n0 n1 n2 n3 n4 n5 n6 n7
    clear h ht R
    go_enter Tryz.func18, Tryz.ntmps18
    go_wp2_with fail
    try rw [hW0]
    refine (TX.out _).mono ?_
    rintro e' w1 ⟨rfl, rfl⟩
    go_wp2_with fail
    refine bodyPost_ret (v := .tuple #[.agg #[.int .u64 0, .int .u64 0, .int .u64 0, .int .u64 0, .int .u64 0, .int .u64 0, .bool false, .bool false], .bool false]) (by simp [results, Tryz.results18, go_sem, n0, n1, n2, n3, n4, n5, n6, n7]) rfl ⟨rfl, ?_⟩
    have b := HB.out
    repeat' refine bel_cell ?_ (by omega) _ _
    exact b
  | some u =>
    rw [h] at hr ht
    simp only [Option.getD_some] at ht
    obtain ⟨p, hp1, hp2, _⟩ := Exp.macro_mem h
    obtain ⟨m1, m2⟩ := mac_plain p hp1
    rw [hp2] at m1 m2
    simp only [Prod.mk.injEq] at hr
    obtain ⟨hx, rfl⟩ := hr
    obtain ⟨⟨x', a', e'⟩, hpl⟩ : ∃ r, Exp.plain u = r := ⟨_, rfl⟩
    rw [hpl] at hx
    subst hx
    have hmc := Exp.mac_ok p hp1
    have ne : t.toList ≠ [] := by
      intro q
      rw [ByteArray.toList_eq, ht] at q
      rw [hp2, q] at hmc
      cases hmc
    have te : (t.toList == []) = false := by rw [beq_eq_false_iff_ne]; exact ne
    rw [← ht] at m1 m2 hpl
    have PP := Lib.hid (fun w0 : World => parse7_plain t (by rw [Lib.size_eq]; omega) m1 x' a' e' hpl w0)
    clear h ht hp1 hp2 m1 m2 hpl hmc ne
    go_enter Tryz.func18, Tryz.ntmps18
    go_wp2_with fail
    try rw [hW0]
    refine (TX.out _).mono ?_
    rintro e'' w1 ⟨rfl, rfl⟩
    go_wp2_with fail
    refine (PP.out _).mono ?_
    rintro e'' w2 ⟨rfl, hb⟩
    have R := HR.out.below hb
    have n0 := R.cell 0; have n1 := R.cell 1; have n2 := R.cell 2; have n3 := R.cell 3; have n4 := R.cell 4; have n5 := R.cell 5; have n6 := R.cell 6; have n7 := R.cell 7
    have f0 := R.free 0; have f1 := R.free 1; have f2 := R.free 2; have f3 := R.free 3; have f4 := R.free 4; have f5 := R.free 5; have f6 := R.free 6; have f7 := R.free 7
    simp only [exL, Exp.zero, List.getElem?_cons_zero, List.getElem?_cons_succ, Int.natCast_zero] at n0 n1 n2 n3 n4 n5 n6 n7
    have lz := R.lt
    have ne : w.heap.size ≠ w2.heap.size := by omega
    have bz := HB.out.trans (hb.mono HB.out.size)
    have BZ := Lib.hid bz
    have HRR2 := Lib.hid R
    clear hb R bz PP
    go_wp2_with fail
    have RR := (set8_row HRR2.out (.int .u64 x'.a0) (.int .u64 x'.a1) (.int .u64 x'.a2) (.int .u64 x'.a3) (.int .u64 x'.a4) (.int .u64 x'.a5) (.bool x'.b3) (.bool x'.b5)).alloc (.cells #[.int .u64 x'.a0, .int .u64 x'.a1, .int .u64 x'.a2, .int .u64 x'.a3, .int .u64 x'.a4, .int .u64 x'.a5, .bool x'.b3, .bool x'.b5] 25)
    have m0 := RR.cell 0; have m1 := RR.cell 1; have m2 := RR.cell 2; have m3 := RR.cell 3; have m4 := RR.cell 4; have m5 := RR.cell 5; have m6 := RR.cell 6; have m7 := RR.cell 7
    simp only [List.getElem?_cons_zero, List.getElem?_cons_succ] at m0 m1 m2 m3 m4 m5 m6 m7
    refine bodyPost_ret (v := .tuple #[.agg #[.int .u64 x'.a0, .int .u64 x'.a1, .int .u64 x'.a2, .int .u64 x'.a3, .int .u64 x'.a4, .int .u64 x'.a5, .bool x'.b3, .bool x'.b5], .bool true]) (by simp [results, Tryz.results18, go_sem, m0, m1, m2, m3, m4, m5, m6, m7]) rfl ⟨rfl, ?_⟩
    have b := BZ.out
    have bz := b.size
    refine Below.alloc ?_ (by simpa using bz) _
    repeat' refine bel_cell ?_ (by omega) _ _
    exact b

set_option linter.unusedSimpArgs false in
set_option maxRecDepth 100000 in
set_option maxHeartbeats 4000000 in
theorem parse7_mac (s : ByteArray) (hs : s.size ≤ 500) (hm : Exp.isMac (Exp.words s.data.toList) = true) (x : Exp.Ex) (a e : Nat) (hr : Exp.parse s.data.toList = (x, a, e)) (w : World) :
    Calls Tryz.prog 14 #[.string s] w fun r w' => r = .returned (.tuple #[.agg #[.int .u64 x.a0, .int .u64 x.a1, .int .u64 x.a2, .int .u64 x.a3, .int .u64 x.a4, .int .u64 x.a5, .bool x.b3, .bool x.b5], .int .i64 a, .int .i64 e]) ∧ Below w.heap.size w w' := by
  have WD := Lib.hid (fun w0 : World => words7_any s (by omega) w0)
  have hm' := hm
  unfold Exp.isMac at hm'
  rw [Bool.and_eq_true, decide_eq_true_iff, decide_eq_true_iff] at hm'
  obtain ⟨hl1, hh⟩ := hm'
  obtain ⟨p, rest, hx⟩ : ∃ p rest, Exp.wAt (Exp.words s.data.toList) 0 = (p, 64 :: rest) := by
    cases hq : (Exp.wAt (Exp.words s.data.toList) 0).2 with
    | nil => rw [hq] at hh; cases hh
    | cons b r => rw [hq] at hh; cases hh; exact ⟨(Exp.wAt (Exp.words s.data.toList) 0).1, r, by rw [← hq]⟩
  unfold Exp.parse at hr
  rw [if_pos hm, hx] at hr
  obtain ⟨t, ht⟩ : ∃ t : ByteArray, (⟨(64 :: rest).toArray⟩ : ByteArray) = t := ⟨_, rfl⟩
  have htl : t.data.toList = 64 :: rest := by rw [← ht]
  have tz : 0 < t.size := by rw [← ht]; simp [ByteArray.size]
  have tz' : ((0 : Int) < (t.size : Int)) := by omega
  have tb : t[0]'tz = 64 := by subst ht; rfl
  simp only at hr
  rw [← htl] at hr
  obtain ⟨⟨y, is⟩, hmr⟩ : ∃ r, Exp.macR t.data.toList = r := ⟨_, rfl⟩
  rw [hmr] at hr
  have MA := Lib.hid (fun w0 : World => macro7_any t y is hmr w0)
  have HR := Lib.hid hr
  have g0 := wt_at (ws := Exp.words s.data.toList) (k := 0) (by omega)
  rw [hx] at g0
  have WFF := Lib.hid (fun (W : World) (vu vd : Value) (h : WT (w.alloc (.cells (exL Exp.zero).toArray 25)) (Exp.words s.data.toList) vu vd W) => show ∃ gu cu gd cd, vu = .slice (some ⟨gu, 0, none⟩) 1 cu ∧ vd = .slice (some ⟨gd, 0, none⟩) 1 cd ∧ WF w gu gd (Exp.words s.data.toList) W from by
    have := wf_of h (by omega)
    rw [hl1] at this
    exact this)
  have G0 := Lib.hid (fun (W : World) (gu gd : Nat) (h : WF w gu gd (Exp.words s.data.toList) W) => show W.cell? ⟨gu, 0, none⟩ = some (.string t) ∧ W.cell? ⟨gd, 0, none⟩ = some (.int .i64 (p : Nat)) from by
    have h1 := h.u 0 _ g0
    have h2 := h.d 0 _ g0
    simp only [ht] at h1
    exact ⟨h1, h2⟩)
  clear hm hl1 hh hx hr ht htl hmr g0
  go_enter Tryz.func14, Tryz.ntmps14
  go_wp2_with fail
  refine (WD.out _).mono ?_
  rintro e' w1 ⟨vu, vd, rfl, hT⟩
  obtain ⟨gu, cu, gd, cd, rfl, rfl, F⟩ := WFF.out _ _ _ hT
  obtain ⟨c0, c1⟩ := G0.out _ _ _ F
  have H1 := Lib.hid F
  clear hT WFF WD F
  go_wp2_with fail
  refine (MA.out _).mono ?_
  rintro e' w2 ⟨rfl, hb⟩
  have F := H1.out.next hb
  obtain ⟨d0, d1⟩ := G0.out _ _ _ F
  have R := F.res
  have n0 := R.cell 0; have n1 := R.cell 1; have n2 := R.cell 2; have n3 := R.cell 3; have n4 := R.cell 4; have n5 := R.cell 5; have n6 := R.cell 6; have n7 := R.cell 7
  have f0 := R.free 0; have f1 := R.free 1; have f2 := R.free 2; have f3 := R.free 3; have f4 := R.free 4; have f5 := R.free 5; have f6 := R.free 6; have f7 := R.free 7
  simp only [exL, Exp.zero, List.getElem?_cons_zero, List.getElem?_cons_succ, Int.natCast_zero] at n0 n1 n2 n3 n4 n5 n6 n7
  have lz := R.lt
  have ne : w.heap.size ≠ w2.heap.size := by omega
  have ld := F.ld
  have nd : gd ≠ w.heap.size := by have := F.nd; omega
  have nd2 : w.heap.size ≠ gd := by omega
  have ne3 : gd ≠ w2.heap.size := by omega
  have HRR2 := Lib.hid R
  have BZ := Lib.hid F.below
  have bzs := F.below.size
  clear hb R MA c0 c1 H1
  cases is with
  | true =>
    have hp := HR.out
    rw [if_pos rfl] at hp
    simp only [Prod.mk.injEq] at hp
    obtain ⟨rfl, rfl, rfl⟩ := hp
    clear F d0 d1 G0 HR
    go_wp2_with fail
    have RR := (set8_row HRR2.out (.int .u64 y.a0) (.int .u64 y.a1) (.int .u64 y.a2) (.int .u64 y.a3) (.int .u64 y.a4) (.int .u64 y.a5) (.bool y.b3) (.bool y.b5)).alloc (.cells #[.int .u64 y.a0, .int .u64 y.a1, .int .u64 y.a2, .int .u64 y.a3, .int .u64 y.a4, .int .u64 y.a5, .bool y.b3, .bool y.b5] 25)
    have m0 := RR.cell 0; have m1 := RR.cell 1; have m2 := RR.cell 2; have m3 := RR.cell 3; have m4 := RR.cell 4; have m5 := RR.cell 5; have m6 := RR.cell 6; have m7 := RR.cell 7
    simp only [List.getElem?_cons_zero, List.getElem?_cons_succ] at m0 m1 m2 m3 m4 m5 m6 m7
    refine bodyPost_ret (v := .tuple #[.agg #[.int .u64 y.a0, .int .u64 y.a1, .int .u64 y.a2, .int .u64 y.a3, .int .u64 y.a4, .int .u64 y.a5, .bool y.b3, .bool y.b5], .int .i64 0, .int .i64 0]) (by simp [results, Tryz.results14, go_sem, m0, m1, m2, m3, m4, m5, m6, m7]) rfl ⟨rfl, ?_⟩
    have b := BZ.out
    have bz := b.size
    refine Below.alloc ?_ (by simpa using bz) _
    repeat' refine bel_cell ?_ (by omega) _ _
    exact b
  | false =>
    have hp := HR.out
    rw [if_neg (by simp)] at hp
    simp only [Prod.mk.injEq] at hp
    obtain ⟨rfl, rfl, rfl⟩ := hp
    go_wp2_with fail
    obtain ⟨W3, hW3⟩ : ∃ W3, w2.alloc (.cells #[.int .u64 y.a0, .int .u64 y.a1, .int .u64 y.a2, .int .u64 y.a3, .int .u64 y.a4, .int .u64 y.a5, .bool y.b3, .bool y.b5] 25) = W3 := ⟨_, rfl⟩
    have F3 := F.next ((Below.refl w2.heap.size w2).alloc (Nat.le_refl _) (.cells #[.int .u64 y.a0, .int .u64 y.a1, .int .u64 y.a2, .int .u64 y.a3, .int .u64 y.a4, .int .u64 y.a5, .bool y.b3, .bool y.b5] 25))
    rw [hW3] at F3 ⊢
    obtain ⟨_, k3⟩ := G0.out _ _ _ F3
    have R3 := F3.res
    have n0 := R3.cell 0; have n1 := R3.cell 1; have n2 := R3.cell 2; have n3 := R3.cell 3; have n4 := R3.cell 4; have n5 := R3.cell 5; have n6 := R3.cell 6; have n7 := R3.cell 7
    have f0 := R3.free 0; have f1 := R3.free 1; have f2 := R3.free 2; have f3 := R3.free 3; have f4 := R3.free 4; have f5 := R3.free 5; have f6 := R3.free 6; have f7 := R3.free 7
    simp only [exL, Exp.zero, List.getElem?_cons_zero, List.getElem?_cons_succ, Int.natCast_zero] at n0 n1 n2 n3 n4 n5 n6 n7
    have BX := Lib.hid F3.below
    have KE : Hid (∀ v0 v1 v2 v3 v4 v5 v6 v7, ((((((((W3.setCell ⟨w.heap.size, 0, none⟩ v0).setCell ⟨w.heap.size, 1, none⟩ v1).setCell ⟨w.heap.size, 2, none⟩ v2).setCell ⟨w.heap.size, 3, none⟩ v3).setCell ⟨w.heap.size, 4, none⟩ v4).setCell ⟨w.heap.size, 5, none⟩ v5).setCell ⟨w.heap.size, 6, none⟩ v6).setCell ⟨w.heap.size, 7, none⟩ v7).cell? ⟨gd, 0, none⟩ = some (.int .i64 (p : Nat))) := Lib.hid (fun v0 v1 v2 v3 v4 v5 v6 v7 => ((set8_grown W3 w.heap.size v0 v1 v2 v3 v4 v5 v6 v7).cell (a := ⟨gd, 0, none⟩) k3 (fun e => nd (by cases e; rfl))))
    clear hW3 R3 F3 F d0 d1 HRR2 BZ lz G0 HR ld bzs
    go_region_held3 (fun w' => w'.cell? ⟨gd, 0, none⟩ = some (.int .i64 (p : Nat))) (first | (go_keep; done) | exact KE.out _ _ _ _ _ _ _ _) (fail)
    go_wp2_with fail
    refine bodyPost_ret (v := .tuple #[.agg #[.int .u64 0, .int .u64 0, .int .u64 0, .int .u64 0, .int .u64 0, .int .u64 0, .bool false, .bool false], .int .i64 (p : Nat), .int .i64 (10 : Nat)]) (by simp [results, Tryz.results14, go_sem, n0, n1, n2, n3, n4, n5, n6, n7]) rfl ⟨rfl, ?_⟩
    have b := BX.out
    refine Below.drew ?_
    repeat' refine bel_cell ?_ (by omega) _ _
    exact b

theorem parse7_any (s : ByteArray) (hs : s.size ≤ 500) (x : Exp.Ex) (a e : Nat) (hr : Exp.parse s.data.toList = (x, a, e)) (w : World) :
    Calls Tryz.prog 14 #[.string s] w fun r w' => r = .returned (.tuple #[.agg #[.int .u64 x.a0, .int .u64 x.a1, .int .u64 x.a2, .int .u64 x.a3, .int .u64 x.a4, .int .u64 x.a5, .bool x.b3, .bool x.b5], .int .i64 a, .int .i64 e]) ∧ Below w.heap.size w w' := by
  cases hm : Exp.isMac (Exp.words s.data.toList) with
  | true => exact parse7_mac s hs hm x a e hr w
  | false =>
    refine parse7_plain s hs hm x a e ?_ w
    rw [← hr]
    unfold Exp.parse
    rw [if_neg (by simp [hm])]

set_option maxRecDepth 100000 in
set_option maxHeartbeats 4000000 in
theorem normal7_any (s : ByteArray) (hs : s.size ≤ 500) (t : List UInt8) (a e : Nat) (hr : Exp.norm s.data.toList = (t, a, e)) (w : World) :
    Calls Tryz.prog 16 #[.string s] w fun r w' => r = .returned (.tuple #[.string ⟨t.toArray⟩, .int .i64 a, .int .i64 e]) ∧ Below w.heap.size w w' := by
  obtain ⟨⟨x, a0, e0⟩, hp⟩ : ∃ r, Exp.parse s.data.toList = r := ⟨_, rfl⟩
  have PA := Lib.hid (fun w0 : World => parse7_any s hs x a0 e0 hp w0)
  have res := Exp.parse_res s.data.toList
  unfold Exp.norm at hr
  rw [hp] at hr res
  clear hp
  rcases res with ⟨h0, h1, hok⟩ | ⟨h0, h1, h2⟩
  · simp only at h0 h1 hok
    subst h0 h1
    rw [if_pos rfl] at hr
    simp only [Prod.mk.injEq] at hr
    obtain ⟨rfl, rfl, rfl⟩ := hr
    have PP := Lib.hid (fun (w0 : World) => print7_yes x hok w0)
    clear hok
    go_enter Tryz.func16, Tryz.ntmps16
    go_wp2_with fail
    refine (PA.out _).mono ?_
    rintro e' w1 ⟨rfl, hb⟩
    have HB := Lib.hid hb
    clear hb
    go_wp2_with fail
    refine (PP.out _).mono ?_
    rintro e' w2 ⟨rfl, hb⟩
    have HB2 := Lib.hid (HB.out.trans ((((Below.refl w1.heap.size w1).alloc (Nat.le_refl _) (.cells #[.int .u64 x.a0, .int .u64 x.a1, .int .u64 x.a2, .int .u64 x.a3, .int .u64 x.a4, .int .u64 x.a5, .bool x.b3, .bool x.b5] 25)).trans (hb.mono (by simp))).mono HB.out.size))
    clear hb
    go_wp2_with fail
    refine bodyPost_ret (v := .tuple #[.string ⟨x.text.toArray⟩, .int .i64 (0 : Nat), .int .i64 (0 : Nat)]) (by simp [results, Tryz.results16, go_sem]) rfl ⟨rfl, ?_⟩
    exact HB2.out
  · simp only at h0 h1 h2
    have en : e0 ≠ 0 := by omega
    have t1 : ((e0 : Int) != 0) = true := by rw [bne_iff_ne]; omega
    have t2 : (e0 != 0) = true := by rw [bne_iff_ne]; omega
    rw [if_neg en] at hr
    simp only [Prod.mk.injEq] at hr
    obtain ⟨rfl, rfl, rfl⟩ := hr
    clear h0 h1 h2 en
    go_enter Tryz.func16, Tryz.ntmps16
    go_wp2_with fail
    refine (PA.out _).mono ?_
    rintro e' w1 ⟨rfl, hb⟩
    have HB := Lib.hid hb
    clear hb
    go_wp2_with fail
    refine bodyPost_ret (v := .tuple #[.string ⟨([] : List UInt8).toArray⟩, .int .i64 a0, .int .i64 e0]) (by simp [results, Tryz.results16, go_sem]) rfl ⟨rfl, ?_⟩
    exact HB.out.alloc HB.out.size _
end Go.Proofs.YtpnfifhanmpapaaGreatDoor
