/- For every expression, zone and time, MatchIs returns true: which dates and times are matched, and whether any is, is as the document's program says, or the errors. Condition: the program's tables start as its text lays them (tied). -/
import Derived.Test.YtbehendogcghjaaDoorMatRY
namespace Go.Proofs.YtbehendogcghjaaDoor.matchIs
open Go.ChangeShapes Go.WideShapes Go.ChangeAt Go.RowKit Go.ChangeMaps

theorem ris {w W : World} {l : List (Nat × Exp.Ex)} (h : MC w l W) (x : Exp.Ex) (hx : x.Bd) (z t : Int) (r : Bool) (e : Int) (hr : isO x z t = r) (he : errC x z [t] = e) :
    Calls Tryd.prog 18 #[.agg #[.int .u64 x.a0, .int .u64 x.a1, .int .u64 x.a2, .int .u64 x.a3, .int .u64 x.a4, .int .u64 x.a5, .bool x.b3, .bool x.b5], .int .i64 z, .int .i64 t] W fun e' W' => e' = .returned (.tuple #[.bool r, .int .i64 e]) ∧ MC w l W' :=
  (ris_any x hx z t W h.lay).mono fun _ _ ⟨h1, h2⟩ => ⟨by rw [h1, hr, he], h.next h2⟩
theorem rever {w W : World} {l : List (Nat × Exp.Ex)} (h : MC w l W) (x : Exp.Ex) (hx : x.Bd) (r : Bool) (e : Int) (hr : everO x = r) (he : errOk x.okB = e) :
    Calls Tryd.prog 20 #[.agg #[.int .u64 x.a0, .int .u64 x.a1, .int .u64 x.a2, .int .u64 x.a3, .int .u64 x.a4, .int .u64 x.a5, .bool x.b3, .bool x.b5]] W fun e' W' => e' = .returned (.tuple #[.bool r, .int .i64 e]) ∧ MC w l W' :=
  (rever_any x hx W).mono fun _ _ ⟨h1, h2⟩ => ⟨by rw [h1, hr, he], h.next h2⟩
set_option maxRecDepth 100000 in
set_option maxHeartbeats 4000000 in
theorem walk (x : Exp.Ex) (z t : Int) (w : World) (L : LayM w) (hx : x.Bd) (_ : (Lit.int .i64 z).wf = true) (_ : (Lit.int .i64 t).wf = true) :
    Calls Tryd.prog 3 #[.agg #[.int .u64 x.a0, .int .u64 x.a1, .int .u64 x.a2, .int .u64 x.a3, .int .u64 x.a4, .int .u64 x.a5, .bool x.b3, .bool x.b5], .int .i64 z, .int .i64 t] w fun e w' => e = .returned (.bool true) ∧ Below w.heap.size w w' := by
  obtain ⟨e, he⟩ : ∃ e, errC x z [t] = e := ⟨_, rfl⟩
  obtain ⟨f, hf⟩ : ∃ f, errOk x.okB = f := ⟨_, rfl⟩
  obtain ⟨a, ha⟩ : ∃ a, dayO x z t = a := ⟨_, rfl⟩
  obtain ⟨b, hb⟩ : ∃ b, isO x z t = b := ⟨_, rfl⟩
  obtain ⟨c, hc⟩ : ∃ c, everO x = c := ⟨_, rfl⟩
  have Q := Lib.hid ((MC.start L).box x)
  have D1 := Lib.hid (fun l W (h : MC w l W) => h.day x hx z t a e ha he)
  have D2 := Lib.hid (fun l W (h : MC w l W) => h.rday x hx z t a e ha he)
  have I1 := Lib.hid (fun l W (h : MC w l W) => h.is x hx z t b e hb he)
  have I2 := Lib.hid (fun l W (h : MC w l W) => ris h x hx z t b e hb he)
  have E1 := Lib.hid (fun l W (h : MC w l W) => h.ever x hx c f hc hf)
  have E2 := Lib.hid (fun l W (h : MC w l W) => rever h x hx c f hc hf)
  clear hx he hf ha hb hc L
  go_enter Tryd.func3, Tryd.ntmps3
  go_wp2_with fail
  refine (D1.out _ _ Q.out).mono ?_
  rintro e' wc1 ⟨rfl, q⟩
  obtain ⟨B, hB⟩ : ∃ B, w.heap.size = B := ⟨_, rfl⟩
  rw [hB] at q
  obtain ⟨c0, c1, c2, c3, c4, c5, c6, c7⟩ := q.cells B x (by simp)
  have Q := Lib.hid q
  clear q
  go_wp2_with fail
  refine (D2.out _ _ Q.out).mono ?_
  rintro e' wc2 ⟨rfl, q⟩
  obtain ⟨c0, c1, c2, c3, c4, c5, c6, c7⟩ := q.cells B x (by simp)
  have Q := Lib.hid q
  clear q
  go_wp2_with fail
  refine (I1.out _ _ Q.out).mono ?_
  rintro e' wc3 ⟨rfl, q⟩
  obtain ⟨c0, c1, c2, c3, c4, c5, c6, c7⟩ := q.cells B x (by simp)
  have Q := Lib.hid q
  clear q
  go_wp2_with fail
  refine (I2.out _ _ Q.out).mono ?_
  rintro e' wc4 ⟨rfl, q⟩
  obtain ⟨c0, c1, c2, c3, c4, c5, c6, c7⟩ := q.cells B x (by simp)
  have Q := Lib.hid q
  clear q
  go_wp2_with fail
  refine (E1.out _ _ Q.out).mono ?_
  rintro e' wc5 ⟨rfl, q⟩
  obtain ⟨c0, c1, c2, c3, c4, c5, c6, c7⟩ := q.cells B x (by simp)
  have Q := Lib.hid q
  clear q
  go_wp2_with fail
  refine (E2.out _ _ Q.out).mono ?_
  rintro e' wc6 ⟨rfl, q⟩
  obtain ⟨c0, c1, c2, c3, c4, c5, c6, c7⟩ := q.cells B x (by simp)
  have Q := Lib.hid q
  clear q
  go_wp2_with fail
  refine (MC.works Q.out).mono ?_
  rintro e' wc7 ⟨rfl, q⟩
  have Q := Lib.hid q
  clear q
  go_wp2_with fail
  go_ret
  exact ⟨rfl, Q.out.below⟩

set_option maxRecDepth 100000 in
theorem lifted (os : Os) (started : os.Started) (H : Type) (enc : TypeId × Value → H) :
    ReturnsInHanded {} Tryd.checked os 3 .any (fun w args => (Rows.matchIsSpec.pre enc Tryd.prog Tryd.f3 [] false w args ∧ laidMetH Tryd.prog Rows.matchIsRow.laid w) ∧ sizedMet enc Tryd.prog Tryd.f3 (OpenSpec.ofChange Rows.matchIsSpec) false w args)
      (Rows.matchIsSpec.post enc Tryd.prog Tryd.f3 false true false false) := by
  refine returnsInHanded_of_change_and (C := Tryd.checked) (X := fun w _ => laidMetH Tryd.prog Rows.matchIsRow.laid w) (fun _ _ _ hh h => h.of_heap hh) own started (by kernel_rfl) Tryd.func3
    (ChangeSpec.witness_shaped (enc := enc) (C := Tryd.checked) (os := os) (X := fun w _ => laidMetH Tryd.prog Rows.matchIsRow.laid w) false (World.laidAll Tryd.prog os Rows.matchIsRow.laid) #[.agg #[.int .u64 0, .int .u64 0, .int .u64 0, .int .u64 0, .int .u64 0, .int .u64 0, .bool false, .bool false], .int .i64 0, .int .i64 0] 8 (World.laidAll_os _ _ _) (World.shaped_of_ZipB (by kernel_rfl) (by kernel_rfl)) (by kernel_rfl) (by kernel_rfl) (by kernel_rfl) (by rw [MakeChecks.laidMetH_plain _ _ _ (by kernel_rfl)]; exact laidMet_laidAll _ (by kernel_rfl) (by kernel_rfl))) ?_
  intro W base args ds gs before hval0 hW _ _ hL _
  have hval : ∀ (j : Nat) t v, Tryd.f3.params[j]? = some t → args[j]? = some v → Value.okWide Tryd.prog W .any base t v := hval0
  have hW' := hW
  obtain ⟨p, q, hA0, hV, rfl, hfz, hnd⟩ := hW
  have hA : DataW.TrodAll enc Tryd.prog W 0 (fun _ => true) true Tryd.f3.params.toList args.toList ds p := hA0
  rw [Tryd.params3] at hA hval
  obtain ⟨v0, vs0, d0, ds0, p0, q0, hargs, rfl, rfl, h0, r0⟩ := trodAll_cons hA
  obtain ⟨v1, vs1, d1, ds1, p1, q1, rfl, rfl, rfl, h1, r1⟩ := trodAll_cons r0
  obtain ⟨v2, vs2, d2, ds2, p2, q2, rfl, rfl, rfl, h2, r2⟩ := trodAll_cons r1
  obtain ⟨rfl, rfl, rfl⟩ := trodAll_nil r2
  obtain rfl : args = #[v0, v1, v2] := by cases args; simp_all
  obtain ⟨rfl, rfl⟩ := trodVars_none hV
  obtain ⟨x0, rfl, w0⟩ := open_expr (hval 0 24 v0 rfl rfl) h0
  have k0 := h0
  have lt0 : ∀ x ∈ p0, x.block < W.heap.size := by obtain ⟨m, hm⟩ := k0; exact DataW.trod_lt m _ _ _ hm
  obtain ⟨a1, rfl, rfl, rfl, w1⟩ := open_int Tryd.underlying3 (hval 1 3 v1 rfl rfl) h1
  obtain ⟨a2, rfl, rfl, rfl, w2⟩ := open_int Tryd.underlying2 (hval 2 2 v2 rfl rfl) h2
  clear hA0 hval0
  refine (walk x0 a1 a2 W (layM_of _ W (by kernel_rfl) (.head _) (.tail _ (.head _)) (by kernel_rfl) (by kernel_rfl) hL) w0 w1 w2).mono fun e W' ⟨he, bel⟩ => ?_
  subst he
  exact ⟨_, rfl, _, _, _, [], _, [], hW', trodAll_mk1 (shut_bool Tryd.underlying4 _), (trodAll_cons_mk (Below.trod laidOut (by kernel_rfl) (of_decide_eq_true (by kernel_rfl)) k0 bel lt0) (trodAll_cons_mk (shut_int Tryd.underlying3 w1) (trodAll_cons_mk (shut_int Tryd.underlying2 w2) trodAll_mk0))), rfl, bel.frame _, fun h => by cases h⟩

theorem row_holds : Rows.MatchIsSaid :=
  OpenClaim.holds_of_wide 3 Tryd.f3 rfl rfl rfl rfl rfl rfl rfl ⟨rfl, rfl, rfl, rfl, rfl⟩ rfl rfl rfl rfl rfl (by kernel_rfl) Tryd.func3 (by kernel_rfl)
    (of_decide_eq_true (by kernel_rfl)) (by unfold Func.isWrapper; first | (rw [if_pos (by decide +kernel)]; kernel_rfl) | (rw [if_neg (by decide +kernel)]; exact ⟨rfl, rfl⟩))
    (fun os started H enc _ => lifted os started H enc)

theorem proved : Rows.MatchIsCardSaid :=
  Claim7.holds_tied_plain_at .later [] Rows.matchIsCard.laidKinds true Rows.matchIsCard.stood.harness Rows.matchIsCard.stood.looks
    row_holds (fun _ h => by cases h) (by kernel_rfl) (fun _ h => by cases h) matchIs_row_tie rfl ⟨rfl, rfl⟩ (by kernel_rfl) rfl
    (fun f fn hf hfn => by
      obtain rfl : f = 3 := Option.some.inj ((show Tryd.prog.funcNamed Rows.matchIsRow.func = some 3 by kernel_rfl).symm.trans hf) |>.symm
      obtain rfl : fn = Tryd.f3 := (Option.some.inj (Tryd.func3.symm.trans hfn)).symm
      exact ⟨looks0, fun j t ht => by
        rw [Tryd.params3] at ht
        have hm : t ∈ [24, 3, 2] := by simpa using Array.mem_of_getElem? ht
        have hall : ([24, 3, 2].all fun u => !Tryd.prog.wantsStandIn u) = true := by kernel_rfl
        exact (show Tryd.prog.wantsStandIn t = false by simpa using List.all_eq_true.1 hall t hm)⟩)
    (by kernel_rfl)

end Go.Proofs.YtbehendogcghjaaDoor.matchIs
