/- For every expression, zone and time, MatchOr returns true: a date is matched by both lists of days exactly if it is matched by one of them alone. Condition: the program's tables start as its text lays them (tied). -/
import Derived.Test.YtbehendogcghjaaDoorMatCx
import Derived.Deep.CutRange
import Derived.RegionTactic
import Derived.ChangeAlike
namespace Go.Proofs.YtbehendogcghjaaDoor.matchOr
open Go.ChangeShapes Go.WideShapes Go.ChangeAt Go.RowKit Go.ChangeMaps

/-- without stars for the days; days of the month alone; days of the week alone -/
abbrev nx (x : Exp.Ex) : Exp.Ex := ⟨x.a0, x.a1, x.a2, x.a3, x.a4, x.a5, false, false⟩
abbrev oy (x : Exp.Ex) : Exp.Ex := ⟨x.a0, x.a1, x.a2, x.a3, x.a4, 127, false, true⟩
abbrev oz (x : Exp.Ex) : Exp.Ex := ⟨x.a0, x.a1, x.a2, 4294967294, x.a4, x.a5, true, false⟩
theorem nx_bd {x : Exp.Ex} (h : x.Bd) : (nx x).Bd := fun i hi => six_cases hi (P := fun i => (nx x).at i < 2 ^ 64) (h 0 (by decide)) (h 1 (by decide)) (h 2 (by decide)) (h 3 (by decide)) (h 4 (by decide)) (h 5 (by decide))
theorem oy_bd {x : Exp.Ex} (h : x.Bd) : (oy x).Bd := fun i hi => six_cases hi (P := fun i => (oy x).at i < 2 ^ 64) (h 0 (by decide)) (h 1 (by decide)) (h 2 (by decide)) (h 3 (by decide)) (h 4 (by decide)) (show 127 < 2 ^ 64 by decide)
theorem oz_bd {x : Exp.Ex} (h : x.Bd) : (oz x).Bd := fun i hi => six_cases hi (P := fun i => (oz x).at i < 2 ^ 64) (h 0 (by decide)) (h 1 (by decide)) (h 2 (by decide)) (show 4294967294 < 2 ^ 64 by decide) (h 4 (by decide)) (h 5 (by decide))
theorem st : exStar.Ok := Exp.okB_iff.1 exStar_ok
theorem oy_ok {x : Exp.Ex} (h : (nx x).Ok) : (oy x).Ok where
  ne := fun i hi => six_cases hi (P := fun i => (oy x).at i ≠ 0) (h.ne 0 (by decide)) (h.ne 1 (by decide)) (h.ne 2 (by decide)) (h.ne 3 (by decide)) (h.ne 4 (by decide)) (st.ne 5 (by decide))
  inn := fun i hi => six_cases hi (P := fun i => Fld.In (kd6 i) ((oy x).at i)) (h.inn 0 (by decide)) (h.inn 1 (by decide)) (h.inn 2 (by decide)) (h.inn 3 (by decide)) (h.inn 4 (by decide)) (st.inn 5 (by decide))
  d := fun q => absurd q (by simp)
  w := fun _ => st.w rfl
theorem oz_ok {x : Exp.Ex} (h : (nx x).Ok) : (oz x).Ok where
  ne := fun i hi => six_cases hi (P := fun i => (oz x).at i ≠ 0) (h.ne 0 (by decide)) (h.ne 1 (by decide)) (h.ne 2 (by decide)) (st.ne 3 (by decide)) (h.ne 4 (by decide)) (h.ne 5 (by decide))
  inn := fun i hi => six_cases hi (P := fun i => Fld.In (kd6 i) ((oz x).at i)) (h.inn 0 (by decide)) (h.inn 1 (by decide)) (h.inn 2 (by decide)) (st.inn 3 (by decide)) (h.inn 4 (by decide)) (h.inn 5 (by decide))
  d := fun _ => st.d rfl
  w := fun q => absurd q (by simp)
theorem on_or {x : Exp.Ex} {n : Int} : (nx x).On n ↔ (oy x).On n ∨ (oz x).On n := by
  constructor
  · rintro ⟨y, m, d, v, e, h⟩
    simp [Mat.mt] at h
    obtain ⟨h1, h2 | h2⟩ := h
    · exact .inl ⟨y, m, d, v, e, by simp [Mat.mt, h1, h2]⟩
    · exact .inr ⟨y, m, d, v, e, by simp [Mat.mt, h1, h2]⟩
  · rintro (⟨y, m, d, v, e, h⟩ | ⟨y, m, d, v, e, h⟩)
    · simp [Mat.mt] at h
      exact ⟨y, m, d, v, e, by simp [Mat.mt, h]⟩
    · simp [Mat.mt] at h
      exact ⟨y, m, d, v, e, by simp [Mat.mt, h]⟩
set_option maxRecDepth 100000 in
set_option maxHeartbeats 4000000 in
theorem walk_err (x : Exp.Ex) (z t e : Int) (w : World) (L : LayM w) (hx : x.Bd) (he : errC (nx x) z [t] = e) (hne : e ≠ 0) :
    Calls Tryd.prog 12 #[.agg #[.int .u64 x.a0, .int .u64 x.a1, .int .u64 x.a2, .int .u64 x.a3, .int .u64 x.a4, .int .u64 x.a5, .bool x.b3, .bool x.b5], .int .i64 z, .int .i64 t] w fun e w' => e = .returned (.bool true) ∧ Below w.heap.size w w' := by
  have t3 : (e != 0) = true := by simpa using hne
  have Q := Lib.hid ((MC.start L).box (nx x))
  have DY := Lib.hid (fun l W (h : MC w l W) => h.day (nx x) (nx_bd hx) z t false e (dayO_no (by rw [he]; exact hne)) he)
  clear hx he hne L
  go_enter Tryd.func12, Tryd.ntmps12
  go_wp2_with fail
  refine (DY.out _ _ Q.out).mono ?_
  rintro e' wc1 ⟨rfl, q⟩
  obtain ⟨B, hB⟩ : ∃ B, w.heap.size = B := ⟨_, rfl⟩
  rw [hB] at q
  obtain ⟨c0, c1, c2, c3, c4, c5, c6, c7⟩ := q.cells B (nx x) (by simp)
  have Q := Lib.hid q
  clear q
  go_wp2_with fail
  refine (MC.works Q.out).mono ?_
  rintro e' wc2 ⟨rfl, q⟩
  have Q := Lib.hid q
  clear q
  go_wp2_with fail
  go_ret
  exact ⟨rfl, Q.out.below⟩
theorem forall8 {p0 p1 p2 p3 p4 p5 p6 p7 : Obj → Prop} (h : ∀ o, p0 o ∧ p1 o ∧ p2 o ∧ p3 o ∧ p4 o ∧ p5 o ∧ p6 o ∧ p7 o) : (∀ o, p0 o) ∧ (∀ o, p1 o) ∧ (∀ o, p2 o) ∧ (∀ o, p3 o) ∧ (∀ o, p4 o) ∧ (∀ o, p5 o) ∧ (∀ o, p6 o) ∧ (∀ o, p7 o) :=
  ⟨fun o => (h o).1, fun o => (h o).2.1, fun o => (h o).2.2.1, fun o => (h o).2.2.2.1, fun o => (h o).2.2.2.2.1, fun o => (h o).2.2.2.2.2.1, fun o => (h o).2.2.2.2.2.2.1, fun o => (h o).2.2.2.2.2.2.2⟩
theorem forall8' {p0 p1 p2 p3 p4 p5 p6 p7 : Obj → Obj → Prop} (h : ∀ o q, p0 o q ∧ p1 o q ∧ p2 o q ∧ p3 o q ∧ p4 o q ∧ p5 o q ∧ p6 o q ∧ p7 o q) : (∀ o q, p0 o q) ∧ (∀ o q, p1 o q) ∧ (∀ o q, p2 o q) ∧ (∀ o q, p3 o q) ∧ (∀ o q, p4 o q) ∧ (∀ o q, p5 o q) ∧ (∀ o q, p6 o q) ∧ (∀ o q, p7 o q) :=
  ⟨fun o q => (h o q).1, fun o q => (h o q).2.1, fun o q => (h o q).2.2.1, fun o q => (h o q).2.2.2.1, fun o q => (h o q).2.2.2.2.1, fun o q => (h o q).2.2.2.2.2.1, fun o q => (h o q).2.2.2.2.2.2.1, fun o q => (h o q).2.2.2.2.2.2.2⟩
/-- two expressions in boxes of their own -/
structure Two (w : World) (x : Exp.Ex) (C D : Nat) (W : World) : Prop where
  mc : MC w [(C, nx x), (D, nx x)] W
  ne : C ≠ D
  c0 : w.heap.size ≤ C
  d0 : w.heap.size ≤ D
theorem two_of {w w1 : World} {x : Exp.Ex} {B : Nat} (q : MC w [(B, nx x)] w1) : Two w x w1.heap.size (w1.heap.size + 1) (((w1.alloc (.cells (exL (nx x)).toArray 24)).alloc (.cells (exL (nx x)).toArray 24)).drew) := by
  have m1 := q.box (nx x)
  have m := (m1.box (nx x)).drew
  have e : (w1.alloc (.cells (exL (nx x)).toArray 24)).heap.size = w1.heap.size + 1 := by simp
  have s := q.below.size
  refine ⟨⟨m.below, m.lay, fun p hp => ?_⟩, by omega, by omega, by omega⟩
  rcases List.mem_cons.1 hp with rfl | hp
  · exact m.rows (w1.heap.size, nx x) (.tail _ (.head _))
  · obtain rfl := List.mem_singleton.1 hp
    have r := m.rows (_, nx x) (.head _)
    dsimp only
    rw [← e]
    exact r
theorem Two.symm {w W : World} {x : Exp.Ex} {C D : Nat} (h : Two w x C D W) : Two w x D C W :=
  ⟨⟨h.mc.below, h.mc.lay, fun p hp => h.mc.rows p (by simp at hp ⊢; exact hp.symm)⟩, h.ne.symm, h.d0, h.c0⟩
theorem Two.put {w W : World} {x : Exp.Ex} {C D : Nat} (h : Two w x C D W) (L : LayM w) :
    MC w [(C, oy x), (D, oz x)] ((((W.setCell ⟨C, 7, none⟩ (.bool true)).setCell ⟨C, 5, none⟩ (.int .u64 127)).setCell ⟨D, 6, none⟩ (.bool true)).setCell ⟨D, 3, none⟩ (.int .u64 4294967294)) := by
  have b := (((h.mc.below.setCell (p := ⟨C, 7, none⟩) h.c0 (.bool true)).setCell (p := ⟨C, 5, none⟩) h.c0 (.int .u64 127)).setCell (p := ⟨D, 6, none⟩) h.d0 (.bool true)).setCell (p := ⟨D, 3, none⟩) h.d0 (.int .u64 4294967294)
  have rc := h.mc.rows (C, nx x) (.head _)
  have rd := h.mc.rows (D, nx x) (.tail _ (.head _))
  refine ⟨b, L.below b, fun p hp => ?_⟩
  rcases List.mem_cons.1 hp with rfl | hp
  · exact (((rc.set 7 (.bool true)).set 5 (.int .u64 127)).other ⟨D, 6, none⟩ _ h.ne).other ⟨D, 3, none⟩ _ h.ne
  · obtain rfl := List.mem_singleton.1 hp
    exact (((rd.other ⟨C, 7, none⟩ _ h.ne.symm).other ⟨C, 5, none⟩ _ h.ne.symm).set 6 (.bool true)).set 3 (.int .u64 4294967294)
set_option maxRecDepth 100000 in
set_option maxHeartbeats 4000000 in
theorem walk_good (x : Exp.Ex) (z t : Int) (a b c : Bool) (w : World) (L : LayM w) (hx : x.Bd) (he : errC (nx x) z [t] = 0) (hy : errC (oy x) z [t] = 0) (hz : errC (oz x) z [t] = 0) (ha : dayO (nx x) z t = a) (hb : dayO (oy x) z t = b) (hc : dayO (oz x) z t = c) (habc : a = (b || c)) :
    Calls Tryd.prog 12 #[.agg #[.int .u64 x.a0, .int .u64 x.a1, .int .u64 x.a2, .int .u64 x.a3, .int .u64 x.a4, .int .u64 x.a5, .bool x.b3, .bool x.b5], .int .i64 z, .int .i64 t] w fun e w' => e = .returned (.bool true) ∧ Below w.heap.size w w' := by
  have Q := Lib.hid ((MC.start L).box (nx x))
  have DX := Lib.hid (fun l W (h : MC w l W) => h.day (nx x) (nx_bd hx) z t a 0 ha he)
  have DY := Lib.hid (fun l W (h : MC w l W) => h.day (oy x) (oy_bd hx) z t b 0 hb hy)
  have DZ := Lib.hid (fun l W (h : MC w l W) => h.day (oz x) (oz_bd hx) z t c 0 hc hz)
  have LL := Lib.hid L
  clear hx he hy hz ha hb hc L
  subst habc
  cases b
  all_goals
    go_enter Tryd.func12, Tryd.ntmps12
    go_wp2_with fail
    refine (DX.out _ _ Q.out).mono ?_
    rintro e' w1 ⟨rfl, q⟩
    obtain ⟨B, hB⟩ : ∃ B, w.heap.size = B := ⟨_, rfl⟩
    rw [hB] at q
    obtain ⟨c0, c1, c2, c3, c4, c5, c6, c7⟩ := q.cells B (nx x) (by simp)
    have a1 := fun o : Obj => (q.alloc o).cells B (nx x) (by simp)
    have a2 := fun o p : Obj => ((q.alloc o).alloc p).cells B (nx x) (by simp)
    obtain ⟨a10, a11, a12, a13, a14, a15, a16, a17⟩ := forall8 a1
    obtain ⟨a20, a21, a22, a23, a24, a25, a26, a27⟩ := forall8' a2
    have Q := Lib.hid q
    clear q a1 a2
    go_upto_region 5 with fail

    go_cut [9, 10] from 31 to 36 (fun u v wx => ∃ C D : Nat, u = .pointer (some ⟨C, 0, none⟩) ∧ v = .pointer (some ⟨D, 0, none⟩) ∧ Hid (Two w x C D wx))
    case first =>
      go_region
      all_goals (go_wp2_with fail)
      all_goals
        go_meet
        first
          | exact ⟨_, _, rfl, rfl, Lib.hid (two_of Q.out)⟩
          | exact ⟨_, _, rfl, rfl, Lib.hid (two_of Q.out).symm⟩
    case rest =>
      obtain ⟨C, D, rfl, rfl, T⟩ := hcut
      clear a10 a11 a12 a13 a14 a15 a16 a17 a20 a21 a22 a23 a24 a25 a26 a27 c0 c1 c2 c3 c4 c5 c6 c7
      obtain ⟨c0, c1, c2, c3, c4, c5, c6, c7⟩ := T.out.mc.cells C (nx x) (by simp)
      obtain ⟨d0, d1, d2, d3, d4, d5, d6, d7⟩ := T.out.mc.cells D (nx x) (by simp)
      have fc := fun k => (T.out.mc.rows (C, nx x) (by simp)).free k
      have fd := fun k => (T.out.mc.rows (D, nx x) (by simp)).free k
      have ne1 : C ≠ D := T.out.ne
      have ne2 : D ≠ C := T.out.ne.symm
      have Q := Lib.hid (T.out.put LL.out)
      go_wp2_with fail
      refine (DY.out _ _ Q.out).mono ?_
      rintro e' wc3 ⟨rfl, q⟩
      obtain ⟨c0, c1, c2, c3, c4, c5, c6, c7⟩ := q.cells C (oy x) (by simp)
      obtain ⟨d0, d1, d2, d3, d4, d5, d6, d7⟩ := q.cells D (oz x) (by simp)
      have Q := Lib.hid q
      clear q
      go_wp2_with fail
      refine (DZ.out _ _ Q.out).mono ?_
      rintro e' wc4 ⟨rfl, q⟩
      obtain ⟨c0, c1, c2, c3, c4, c5, c6, c7⟩ := q.cells C (oy x) (by simp)
      obtain ⟨d0, d1, d2, d3, d4, d5, d6, d7⟩ := q.cells D (oz x) (by simp)
      have Q := Lib.hid q
      clear q
      go_wp2_with fail
      refine (MC.works Q.out).mono ?_
      rintro e' wc5 ⟨rfl, q⟩
      have Q := Lib.hid q
      clear q
      go_wp2_with fail
      go_ret
      exact ⟨rfl, Q.out.below⟩
theorem walk (x : Exp.Ex) (z t : Int) (w : World) (L : LayM w) (hx : x.Bd) (_ : (Lit.int .i64 z).wf = true) (_ : (Lit.int .i64 t).wf = true) :
    Calls Tryd.prog 12 #[.agg #[.int .u64 x.a0, .int .u64 x.a1, .int .u64 x.a2, .int .u64 x.a3, .int .u64 x.a4, .int .u64 x.a5, .bool x.b3, .bool x.b5], .int .i64 z, .int .i64 t] w fun e w' => e = .returned (.bool true) ∧ Below w.heap.size w w' := by
  by_cases h : errC (nx x) z [t] = 0
  · obtain ⟨hk, hz, ht⟩ := errC_one h
    have one : ∀ (y : Exp.Ex), y.okB = true → errC y z [t] = 0 := fun y hy => errC_mk hy hz (fun r hr => by
      have : r = t := by simpa using hr
      omega)
    have ey := one (oy x) (Exp.okB_iff.2 (oy_ok (Exp.okB_iff.1 hk)))
    have ez := one (oz x) (Exp.okB_iff.2 (oz_ok (Exp.okB_iff.1 hk)))
    refine walk_good x z t _ _ _ w L hx h ey ez rfl rfl rfl ?_
    unfold dayO
    rw [if_pos h, if_pos ey, if_pos ez]
    have key : (nx x).onB ((t + 60 * z) / 86400) = ((oy x).onB ((t + 60 * z) / 86400) || (oz x).onB ((t + 60 * z) / 86400)) := by
      apply Bool.eq_iff_iff.2
      rw [Bool.or_eq_true, onB_iff, onB_iff, onB_iff]
      exact on_or
    rw [key]
    cases inT (t + 60 * z) <;> simp
  · exact walk_err x z t _ w L hx rfl h

set_option maxRecDepth 100000 in
theorem lifted (os : Os) (started : os.Started) (H : Type) (enc : TypeId × Value → H) :
    ReturnsInHanded {} Tryd.checked os 12 .any (fun w args => (Rows.matchOrSpec.pre enc Tryd.prog Tryd.f12 [] false w args ∧ laidMetH Tryd.prog Rows.matchOrRow.laid w) ∧ sizedMet enc Tryd.prog Tryd.f12 (OpenSpec.ofChange Rows.matchOrSpec) false w args)
      (Rows.matchOrSpec.post enc Tryd.prog Tryd.f12 false true false false) := by
  refine returnsInHanded_of_change_and (C := Tryd.checked) (X := fun w _ => laidMetH Tryd.prog Rows.matchOrRow.laid w) (fun _ _ _ hh h => h.of_heap hh) own started (by kernel_rfl) Tryd.func12
    (ChangeSpec.witness_shaped (enc := enc) (C := Tryd.checked) (os := os) (X := fun w _ => laidMetH Tryd.prog Rows.matchOrRow.laid w) false (World.laidAll Tryd.prog os Rows.matchOrRow.laid) #[.agg #[.int .u64 0, .int .u64 0, .int .u64 0, .int .u64 0, .int .u64 0, .int .u64 0, .bool false, .bool false], .int .i64 0, .int .i64 0] 8 (World.laidAll_os _ _ _) (World.shaped_of_ZipB (by kernel_rfl) (by kernel_rfl)) (by kernel_rfl) (by kernel_rfl) (by kernel_rfl) (by rw [MakeChecks.laidMetH_plain _ _ _ (by kernel_rfl)]; exact laidMet_laidAll _ (by kernel_rfl) (by kernel_rfl))) ?_
  intro W base args ds gs before hval0 hW _ _ hL _
  have hval : ∀ (j : Nat) t v, Tryd.f12.params[j]? = some t → args[j]? = some v → Value.okWide Tryd.prog W .any base t v := hval0
  have hW' := hW
  obtain ⟨p, q, hA0, hV, rfl, hfz, hnd⟩ := hW
  have hA : DataW.TrodAll enc Tryd.prog W 0 (fun _ => true) true Tryd.f12.params.toList args.toList ds p := hA0
  rw [Tryd.params12] at hA hval
  obtain ⟨v0, vs0, d0, ds0, p0, q0, hargs, rfl, rfl, h0, r0⟩ := trodAll_cons hA
  obtain ⟨v1, vs1, d1, ds1, p1, q1, rfl, rfl, rfl, h1, r1⟩ := trodAll_cons r0
  obtain ⟨v2, vs2, d2, ds2, p2, q2, rfl, rfl, rfl, h2, r2⟩ := trodAll_cons r1
  obtain ⟨rfl, rfl, rfl⟩ := trodAll_nil r2
  obtain rfl : args = #[v0, v1, v2] := by cases args; simp_all
  obtain ⟨rfl, rfl⟩ := trodVars_none hV
  obtain ⟨x0, rfl, w0⟩ := open_expr (hval 0 24 v0 rfl rfl) h0
  have k0 := h0
  have lt0 : ∀ x ∈ p0, x.block < W.heap.size := by obtain ⟨m, hm⟩ := k0; exact DataW.trod_lt m _ _ _ hm
  obtain ⟨a1, rfl, rfl, rfl, w1⟩ := open_int Tryd.underlying3 (hval 1 3 v1 rfl rfl) h1
  obtain ⟨a2, rfl, rfl, rfl, w2⟩ := open_int Tryd.underlying2 (hval 2 2 v2 rfl rfl) h2
  clear hA0 hval0
  refine (walk x0 a1 a2 W (layM_of _ W (by kernel_rfl) (.head _) (.tail _ (.head _)) (by kernel_rfl) (by kernel_rfl) hL) w0 w1 w2).mono fun e W' ⟨he, bel⟩ => ?_
  subst he
  exact ⟨_, rfl, _, _, _, [], _, [], hW', trodAll_mk1 (shut_bool Tryd.underlying4 _), (trodAll_cons_mk (Below.trod laidOut (by kernel_rfl) (of_decide_eq_true (by kernel_rfl)) k0 bel lt0) (trodAll_cons_mk (shut_int Tryd.underlying3 w1) (trodAll_cons_mk (shut_int Tryd.underlying2 w2) trodAll_mk0))), rfl, bel.frame _, fun h => by cases h⟩

theorem row_holds : Rows.MatchOrSaid :=
  OpenClaim.holds_of_wide 12 Tryd.f12 rfl rfl rfl rfl rfl rfl rfl ⟨rfl, rfl, rfl, rfl, rfl⟩ rfl rfl rfl rfl rfl (by kernel_rfl) Tryd.func12 (by kernel_rfl)
    (of_decide_eq_true (by kernel_rfl)) (by unfold Func.isWrapper; first | (rw [if_pos (by decide +kernel)]; kernel_rfl) | (rw [if_neg (by decide +kernel)]; exact ⟨rfl, rfl⟩))
    (fun os started H enc _ => lifted os started H enc)

theorem proved : Rows.MatchOrCardSaid :=
  Claim7.holds_tied_plain_at .later [] Rows.matchOrCard.laidKinds true Rows.matchOrCard.stood.harness Rows.matchOrCard.stood.looks
    row_holds (fun _ h => by cases h) (by kernel_rfl) (fun _ h => by cases h) matchOr_row_tie rfl ⟨rfl, rfl⟩ (by kernel_rfl) rfl
    (fun f fn hf hfn => by
      obtain rfl : f = 12 := Option.some.inj ((show Tryd.prog.funcNamed Rows.matchOrRow.func = some 12 by kernel_rfl).symm.trans hf) |>.symm
      obtain rfl : fn = Tryd.f12 := (Option.some.inj (Tryd.func12.symm.trans hfn)).symm
      exact ⟨looks0, fun j t ht => by
        rw [Tryd.params12] at ht
        have hm : t ∈ [24, 3, 2] := by simpa using Array.mem_of_getElem? ht
        have hall : ([24, 3, 2].all fun u => !Tryd.prog.wantsStandIn u) = true := by kernel_rfl
        exact (show Tryd.prog.wantsStandIn t = false by simpa using List.all_eq_true.1 hall t hm)⟩)
    (by kernel_rfl)

end Go.Proofs.YtbehendogcghjaaDoor.matchOr
