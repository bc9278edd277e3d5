/- For every expression, zone and time, MatchZones returns true: at a zone an expression matches as at the zone 0 the zone later. Condition: the program's tables start as its text lays them (tied). -/
import Derived.Test.YtbehendogcghjaaDoorMatCx
namespace Go.Proofs.YtbehendogcghjaaDoor.matchZones
open Go.ChangeShapes Go.WideShapes Go.ChangeAt Go.RowKit Go.ChangeMaps

set_option maxRecDepth 100000 in
set_option maxHeartbeats 4000000 in
theorem walk_err (x : Exp.Ex) (z t e : Int) (w : World) (L : LayM w) (hx : x.Bd) (he : errC x z [t] = e) (h0 : e ≠ 0) :
    Calls Tryd.prog 9 #[.agg #[.int .u64 x.a0, .int .u64 x.a1, .int .u64 x.a2, .int .u64 x.a3, .int .u64 x.a4, .int .u64 x.a5, .bool x.b3, .bool x.b5], .int .i64 z, .int .i64 t] w fun e w' => e = .returned (.bool true) ∧ Below w.heap.size w w' := by
  have t1 : (e != 0) = true := by simpa using h0
  have Q := Lib.hid ((MC.start L).box x)
  have IS := Lib.hid (fun l W (h : MC w l W) => h.is x hx z t false e (isO_no (by rw [he]; exact h0)) he)
  have DY := Lib.hid (fun l W (h : MC w l W) => h.day x hx z t false e (dayO_no (by rw [he]; exact h0)) he)
  clear hx he h0 L
  go_enter Tryd.func9, Tryd.ntmps9
  go_wp2_with fail
  refine (IS.out _ _ Q.out).mono ?_
  rintro e' wc1 ⟨rfl, q⟩
  obtain ⟨B, hB⟩ : ∃ B, w.heap.size = B := ⟨_, rfl⟩
  rw [hB] at q
  obtain ⟨c0, c1, c2, c3, c4, c5, c6, c7⟩ := q.cells B x (by simp)
  have Q := Lib.hid q
  clear q
  go_wp2_with fail
  refine (DY.out _ _ Q.out).mono ?_
  rintro e' wc2 ⟨rfl, q⟩
  obtain ⟨c0, c1, c2, c3, c4, c5, c6, c7⟩ := q.cells B x (by simp)
  have Q := Lib.hid q
  clear q
  go_wp2_with fail
  refine (MC.works Q.out).mono ?_
  rintro e' wc3 ⟨rfl, q⟩
  have Q := Lib.hid q
  clear q
  go_wp2_with fail
  go_ret
  exact ⟨rfl, Q.out.below⟩
set_option maxRecDepth 100000 in
set_option maxHeartbeats 4000000 in
theorem walk_out (x : Exp.Ex) (z t s : Int) (w : World) (L : LayM w) (hx : x.Bd) (he : errC x z [t] = 0) (hw1 : IntKind.i64.wrap (z * 60) = z * 60) (hw2 : IntKind.i64.wrap (t + z * 60) = s) (h1 : errC x 0 [s] = 14) (h2 : isO x z t = false) (h3 : dayO x z t = false) :
    Calls Tryd.prog 9 #[.agg #[.int .u64 x.a0, .int .u64 x.a1, .int .u64 x.a2, .int .u64 x.a3, .int .u64 x.a4, .int .u64 x.a5, .bool x.b3, .bool x.b5], .int .i64 z, .int .i64 t] w fun e w' => e = .returned (.bool true) ∧ Below w.heap.size w w' := by
  have Q := Lib.hid ((MC.start L).box x)
  have IS := Lib.hid (fun l W (h : MC w l W) => h.is x hx z t false 0 h2 he)
  have DY := Lib.hid (fun l W (h : MC w l W) => h.day x hx z t false 0 h3 he)
  have IS0 := Lib.hid (fun l W (h : MC w l W) => h.is x hx 0 s false 14 (isO_no (by rw [h1]; decide)) h1)
  have DY0 := Lib.hid (fun l W (h : MC w l W) => h.day x hx 0 s false 14 (dayO_no (by rw [h1]; decide)) h1)
  clear hx he h1 h2 h3 L
  go_enter Tryd.func9, Tryd.ntmps9
  go_wp2_with fail
  refine (IS.out _ _ Q.out).mono ?_
  rintro e' wc4 ⟨rfl, q⟩
  obtain ⟨B, hB⟩ : ∃ B, w.heap.size = B := ⟨_, rfl⟩
  rw [hB] at q
  obtain ⟨c0, c1, c2, c3, c4, c5, c6, c7⟩ := q.cells B x (by simp)
  have Q := Lib.hid q
  clear q
  go_wp2_with fail
  refine (DY.out _ _ Q.out).mono ?_
  rintro e' wc5 ⟨rfl, q⟩
  obtain ⟨c0, c1, c2, c3, c4, c5, c6, c7⟩ := q.cells B x (by simp)
  have Q := Lib.hid q
  clear q
  go_wp2_with fail
  refine (IS0.out _ _ Q.out).mono ?_
  rintro e' wc6 ⟨rfl, q⟩
  obtain ⟨c0, c1, c2, c3, c4, c5, c6, c7⟩ := q.cells B x (by simp)
  have Q := Lib.hid q
  clear q
  go_wp2_with fail
  refine (DY0.out _ _ Q.out).mono ?_
  rintro e' wc7 ⟨rfl, q⟩
  obtain ⟨c0, c1, c2, c3, c4, c5, c6, c7⟩ := q.cells B x (by simp)
  have Q := Lib.hid q
  clear q
  go_wp2_with fail
  refine (MC.works Q.out).mono ?_
  rintro e' wc8 ⟨rfl, q⟩
  have Q := Lib.hid q
  clear q
  go_wp2_with fail
  go_ret
  exact ⟨rfl, Q.out.below⟩
set_option maxRecDepth 100000 in
set_option maxHeartbeats 4000000 in
theorem walk_here (x : Exp.Ex) (z t s : Int) (a b : Bool) (w : World) (L : LayM w) (hx : x.Bd) (he : errC x z [t] = 0) (hw1 : IntKind.i64.wrap (z * 60) = z * 60) (hw2 : IntKind.i64.wrap (t + z * 60) = s) (h1 : errC x 0 [s] = 0) (h2 : isO x z t = a) (h3 : dayO x z t = b) (h4 : isO x 0 s = a) (h5 : dayO x 0 s = b) (hab : a = false ∨ a = true ∧ b = true) :
    Calls Tryd.prog 9 #[.agg #[.int .u64 x.a0, .int .u64 x.a1, .int .u64 x.a2, .int .u64 x.a3, .int .u64 x.a4, .int .u64 x.a5, .bool x.b3, .bool x.b5], .int .i64 z, .int .i64 t] w fun e w' => e = .returned (.bool true) ∧ Below w.heap.size w w' := by
  have Q := Lib.hid ((MC.start L).box x)
  have IS := Lib.hid (fun l W (h : MC w l W) => h.is x hx z t a 0 h2 he)
  have DY := Lib.hid (fun l W (h : MC w l W) => h.day x hx z t b 0 h3 he)
  have IS0 := Lib.hid (fun l W (h : MC w l W) => h.is x hx 0 s a 0 h4 h1)
  have DY0 := Lib.hid (fun l W (h : MC w l W) => h.day x hx 0 s b 0 h5 h1)
  clear hx he h1 h2 h3 h4 h5 L
  rcases hab with rfl | ⟨rfl, rfl⟩
  all_goals
    go_enter Tryd.func9, Tryd.ntmps9
    go_wp2_with fail
    refine (IS.out _ _ Q.out).mono ?_
    rintro e' wc9 ⟨rfl, q⟩
    obtain ⟨B, hB⟩ : ∃ B, w.heap.size = B := ⟨_, rfl⟩
    rw [hB] at q
    obtain ⟨c0, c1, c2, c3, c4, c5, c6, c7⟩ := q.cells B x (by simp)
    have Q := Lib.hid q
    clear q
    go_wp2_with fail
    refine (DY.out _ _ Q.out).mono ?_
    rintro e' wc10 ⟨rfl, q⟩
    obtain ⟨c0, c1, c2, c3, c4, c5, c6, c7⟩ := q.cells B x (by simp)
    have Q := Lib.hid q
    clear q
    go_wp2_with fail
    refine (IS0.out _ _ Q.out).mono ?_
    rintro e' wc11 ⟨rfl, q⟩
    obtain ⟨c0, c1, c2, c3, c4, c5, c6, c7⟩ := q.cells B x (by simp)
    have Q := Lib.hid q
    clear q
    go_wp2_with fail
    refine (DY0.out _ _ Q.out).mono ?_
    rintro e' wc12 ⟨rfl, q⟩
    obtain ⟨c0, c1, c2, c3, c4, c5, c6, c7⟩ := q.cells B x (by simp)
    have Q := Lib.hid q
    clear q
    go_wp2_with fail
    refine (MC.works Q.out).mono ?_
    rintro e' wc13 ⟨rfl, q⟩
    have Q := Lib.hid q
    clear q
    go_wp2_with fail
    go_ret
    exact ⟨rfl, Q.out.below⟩
theorem walk (x : Exp.Ex) (z t : Int) (w : World) (L : LayM w) (hx : x.Bd) (_ : (Lit.int .i64 z).wf = true) (_ : (Lit.int .i64 t).wf = true) :
    Calls Tryd.prog 9 #[.agg #[.int .u64 x.a0, .int .u64 x.a1, .int .u64 x.a2, .int .u64 x.a3, .int .u64 x.a4, .int .u64 x.a5, .bool x.b3, .bool x.b5], .int .i64 z, .int .i64 t] w fun e w' => e = .returned (.bool true) ∧ Below w.heap.size w w' := by
  by_cases h : errC x z [t] = 0
  · obtain ⟨hk, hz, ht⟩ := errC_one h
    have hw1 : IntKind.i64.wrap (z * 60) = z * 60 := by rw [IntKind.wrap_i64]; omega
    have hw2 : IntKind.i64.wrap (t + z * 60) = t + 60 * z := by rw [IntKind.wrap_i64]; omega
    by_cases hi : 0 ≤ t + 60 * z ∧ t + 60 * z ≤ 253402300799
    · have h1 : errC x 0 [t + 60 * z] = 0 := errC_mk hk ⟨by omega, by omega⟩ (fun s hs => by
        have : s = t + 60 * z := by simpa using hs
        omega)
      refine walk_here x z t (t + 60 * z) (isO x z t) (dayO x z t) w L hx h hw1 hw2 h1 rfl rfl ?_ ?_ ?_
      · unfold isO; rw [if_pos h, if_pos h1]; simp
      · unfold dayO; rw [if_pos h, if_pos h1]; simp
      · cases e : isO x z t with
        | false => exact .inl rfl
        | true => exact .inr ⟨rfl, day_of_is e⟩
    · have hn : inT (t + 60 * z) = false := by
        cases q : inT (t + 60 * z) with
        | false => rfl
        | true => exact absurd (inT_iff.1 q) hi
      have h1 : errC x 0 [t + 60 * z] = 14 := by
        unfold errC
        rw [hk, if_neg (by simp), if_neg (by unfold errZ; rw [if_pos (by omega)]; simp)]
        simp [hn]
      refine walk_out x z t (t + 60 * z) w L hx h hw1 hw2 h1 ?_ ?_
      · cases e : isO x z t with
        | false => rfl
        | true => exact absurd (lm_in (isO_in e).2) hi
      · unfold dayO; rw [if_pos h, hn]; rfl
  · exact walk_err x z t _ w L hx rfl h

set_option maxRecDepth 100000 in
theorem lifted (os : Os) (started : os.Started) (H : Type) (enc : TypeId × Value → H) :
    ReturnsInHanded {} Tryd.checked os 9 .any (fun w args => (Rows.matchZonesSpec.pre enc Tryd.prog Tryd.f9 [] false w args ∧ laidMetH Tryd.prog Rows.matchZonesRow.laid w) ∧ sizedMet enc Tryd.prog Tryd.f9 (OpenSpec.ofChange Rows.matchZonesSpec) false w args)
      (Rows.matchZonesSpec.post enc Tryd.prog Tryd.f9 false true false false) := by
  refine returnsInHanded_of_change_and (C := Tryd.checked) (X := fun w _ => laidMetH Tryd.prog Rows.matchZonesRow.laid w) (fun _ _ _ hh h => h.of_heap hh) own started (by kernel_rfl) Tryd.func9
    (ChangeSpec.witness_shaped (enc := enc) (C := Tryd.checked) (os := os) (X := fun w _ => laidMetH Tryd.prog Rows.matchZonesRow.laid w) false (World.laidAll Tryd.prog os Rows.matchZonesRow.laid) #[.agg #[.int .u64 0, .int .u64 0, .int .u64 0, .int .u64 0, .int .u64 0, .int .u64 0, .bool false, .bool false], .int .i64 0, .int .i64 0] 8 (World.laidAll_os _ _ _) (World.shaped_of_ZipB (by kernel_rfl) (by kernel_rfl)) (by kernel_rfl) (by kernel_rfl) (by kernel_rfl) (by rw [MakeChecks.laidMetH_plain _ _ _ (by kernel_rfl)]; exact laidMet_laidAll _ (by kernel_rfl) (by kernel_rfl))) ?_
  intro W base args ds gs before hval0 hW _ _ hL _
  have hval : ∀ (j : Nat) t v, Tryd.f9.params[j]? = some t → args[j]? = some v → Value.okWide Tryd.prog W .any base t v := hval0
  have hW' := hW
  obtain ⟨p, q, hA0, hV, rfl, hfz, hnd⟩ := hW
  have hA : DataW.TrodAll enc Tryd.prog W 0 (fun _ => true) true Tryd.f9.params.toList args.toList ds p := hA0
  rw [Tryd.params9] at hA hval
  obtain ⟨v0, vs0, d0, ds0, p0, q0, hargs, rfl, rfl, h0, r0⟩ := trodAll_cons hA
  obtain ⟨v1, vs1, d1, ds1, p1, q1, rfl, rfl, rfl, h1, r1⟩ := trodAll_cons r0
  obtain ⟨v2, vs2, d2, ds2, p2, q2, rfl, rfl, rfl, h2, r2⟩ := trodAll_cons r1
  obtain ⟨rfl, rfl, rfl⟩ := trodAll_nil r2
  obtain rfl : args = #[v0, v1, v2] := by cases args; simp_all
  obtain ⟨rfl, rfl⟩ := trodVars_none hV
  obtain ⟨x0, rfl, w0⟩ := open_expr (hval 0 24 v0 rfl rfl) h0
  have k0 := h0
  have lt0 : ∀ x ∈ p0, x.block < W.heap.size := by obtain ⟨m, hm⟩ := k0; exact DataW.trod_lt m _ _ _ hm
  obtain ⟨a1, rfl, rfl, rfl, w1⟩ := open_int Tryd.underlying3 (hval 1 3 v1 rfl rfl) h1
  obtain ⟨a2, rfl, rfl, rfl, w2⟩ := open_int Tryd.underlying2 (hval 2 2 v2 rfl rfl) h2
  clear hA0 hval0
  refine (walk x0 a1 a2 W (layM_of _ W (by kernel_rfl) (.head _) (.tail _ (.head _)) (by kernel_rfl) (by kernel_rfl) hL) w0 w1 w2).mono fun e W' ⟨he, bel⟩ => ?_
  subst he
  exact ⟨_, rfl, _, _, _, [], _, [], hW', trodAll_mk1 (shut_bool Tryd.underlying4 _), (trodAll_cons_mk (Below.trod laidOut (by kernel_rfl) (of_decide_eq_true (by kernel_rfl)) k0 bel lt0) (trodAll_cons_mk (shut_int Tryd.underlying3 w1) (trodAll_cons_mk (shut_int Tryd.underlying2 w2) trodAll_mk0))), rfl, bel.frame _, fun h => by cases h⟩

theorem row_holds : Rows.MatchZonesSaid :=
  OpenClaim.holds_of_wide 9 Tryd.f9 rfl rfl rfl rfl rfl rfl rfl ⟨rfl, rfl, rfl, rfl, rfl⟩ rfl rfl rfl rfl rfl (by kernel_rfl) Tryd.func9 (by kernel_rfl)
    (of_decide_eq_true (by kernel_rfl)) (by unfold Func.isWrapper; first | (rw [if_pos (by decide +kernel)]; kernel_rfl) | (rw [if_neg (by decide +kernel)]; exact ⟨rfl, rfl⟩))
    (fun os started H enc _ => lifted os started H enc)

theorem proved : Rows.MatchZonesCardSaid :=
  Claim7.holds_tied_plain_at .later [] Rows.matchZonesCard.laidKinds true Rows.matchZonesCard.stood.harness Rows.matchZonesCard.stood.looks
    row_holds (fun _ h => by cases h) (by kernel_rfl) (fun _ h => by cases h) matchZones_row_tie rfl ⟨rfl, rfl⟩ (by kernel_rfl) rfl
    (fun f fn hf hfn => by
      obtain rfl : f = 9 := Option.some.inj ((show Tryd.prog.funcNamed Rows.matchZonesRow.func = some 9 by kernel_rfl).symm.trans hf) |>.symm
      obtain rfl : fn = Tryd.f9 := (Option.some.inj (Tryd.func9.symm.trans hfn)).symm
      exact ⟨looks0, fun j t ht => by
        rw [Tryd.params9] at ht
        have hm : t ∈ [24, 3, 2] := by simpa using Array.mem_of_getElem? ht
        have hall : ([24, 3, 2].all fun u => !Tryd.prog.wantsStandIn u) = true := by kernel_rfl
        exact (show Tryd.prog.wantsStandIn t = false by simpa using List.all_eq_true.1 hall t hm)⟩)
    (by kernel_rfl)

end Go.Proofs.YtbehendogcghjaaDoor.matchZones
