/- For every expression, MatchEver returns true: no date is matched exactly if there is no next time of the first second. Condition: the program's tables start as its text lays them (tied). -/
import Derived.Test.YtbehendogcghjaaDoorMatCx
namespace Go.Proofs.YtbehendogcghjaaDoor.matchEver
open Go.ChangeShapes Go.WideShapes Go.ChangeAt Go.RowKit Go.ChangeMaps

set_option maxRecDepth 100000 in
set_option maxHeartbeats 4000000 in
theorem walk_err (x : Exp.Ex) (e n : Int) (r : Bool) (w : World) (L : LayM w) (hx : x.Bd) (hk : x.okB = false) (he : errOk x.okB = e) (h0 : e ≠ 0) (he2 : errC x 0 [0] = e) (hn : (nextO x 0 0).getD 0 = n) (hr : (nextO x 0 0).isSome = r) :
    Calls Tryd.prog 13 #[.agg #[.int .u64 x.a0, .int .u64 x.a1, .int .u64 x.a2, .int .u64 x.a3, .int .u64 x.a4, .int .u64 x.a5, .bool x.b3, .bool x.b5]] w fun e w' => e = .returned (.bool true) ∧ Below w.heap.size w w' := by
  have t1 : (e != 0) = true := by simpa using h0
  have Q := Lib.hid ((MC.start L).box x)
  have EV := Lib.hid (fun l W (h : MC w l W) => h.ever x hx false e (everO_no hk) he)
  have NX := Lib.hid (fun l W (h : MC w l W) => h.toNext x hx 0 0 n r e hn hr he2)
  have IS := Lib.hid (fun l W (h : MC w l W) => h.is x hx 0 0 false e (isO_no (by rw [he2]; exact h0)) he2)
  clear hx he h0 L he2 hn hr hk
  go_enter Tryd.func13, Tryd.ntmps13
  go_wp2_with fail
  refine (EV.out _ _ Q.out).mono ?_
  rintro e' wc1 ⟨rfl, q⟩
  obtain ⟨B, hB⟩ : ∃ B, w.heap.size = B := ⟨_, rfl⟩
  rw [hB] at q
  obtain ⟨c0, c1, c2, c3, c4, c5, c6, c7⟩ := q.cells B x (by simp)
  have Q := Lib.hid q
  clear q
  go_wp2_with fail
  refine (NX.out _ _ Q.out).mono ?_
  rintro e' wc2 ⟨rfl, q⟩
  obtain ⟨c0, c1, c2, c3, c4, c5, c6, c7⟩ := q.cells B x (by simp)
  have Q := Lib.hid q
  clear q
  go_wp2_with fail
  refine (IS.out _ _ Q.out).mono ?_
  rintro e' wc3 ⟨rfl, q⟩
  obtain ⟨c0, c1, c2, c3, c4, c5, c6, c7⟩ := q.cells B x (by simp)
  have Q := Lib.hid q
  clear q
  go_wp2_with fail
  refine (MC.works Q.out).mono ?_
  rintro e' wc4 ⟨rfl, q⟩
  have Q := Lib.hid q
  clear q
  go_wp2_with fail
  go_ret
  exact ⟨rfl, Q.out.below⟩
set_option maxRecDepth 100000 in
set_option maxHeartbeats 4000000 in
theorem walk_ok (x : Exp.Ex) (n : Int) (v r a : Bool) (w : World) (L : LayM w) (hx : x.Bd) (he : errOk x.okB = 0) (he2 : errC x 0 [0] = 0) (hv : everO x = v) (hn : (nextO x 0 0).getD 0 = n) (hr : (nextO x 0 0).isSome = r) (ha : isO x 0 0 = a) (hva : v = (r || a)) :
    Calls Tryd.prog 13 #[.agg #[.int .u64 x.a0, .int .u64 x.a1, .int .u64 x.a2, .int .u64 x.a3, .int .u64 x.a4, .int .u64 x.a5, .bool x.b3, .bool x.b5]] w fun e w' => e = .returned (.bool true) ∧ Below w.heap.size w w' := by
  have Q := Lib.hid ((MC.start L).box x)
  have EV := Lib.hid (fun l W (h : MC w l W) => h.ever x hx v 0 hv he)
  have NX := Lib.hid (fun l W (h : MC w l W) => h.toNext x hx 0 0 n r 0 hn hr he2)
  have IS := Lib.hid (fun l W (h : MC w l W) => h.is x hx 0 0 a 0 ha he2)
  clear hx he L he2 hn hr hv ha
  subst hva
  cases r
  all_goals
    go_enter Tryd.func13, Tryd.ntmps13
    go_wp2_with fail
    refine (EV.out _ _ Q.out).mono ?_
    rintro e' wc5 ⟨rfl, q⟩
    obtain ⟨B, hB⟩ : ∃ B, w.heap.size = B := ⟨_, rfl⟩
    rw [hB] at q
    obtain ⟨c0, c1, c2, c3, c4, c5, c6, c7⟩ := q.cells B x (by simp)
    have Q := Lib.hid q
    clear q
    go_wp2_with fail
    refine (NX.out _ _ Q.out).mono ?_
    rintro e' wc6 ⟨rfl, q⟩
    obtain ⟨c0, c1, c2, c3, c4, c5, c6, c7⟩ := q.cells B x (by simp)
    have Q := Lib.hid q
    clear q
    go_wp2_with fail
    refine (IS.out _ _ Q.out).mono ?_
    rintro e' wc7 ⟨rfl, q⟩
    obtain ⟨c0, c1, c2, c3, c4, c5, c6, c7⟩ := q.cells B x (by simp)
    have Q := Lib.hid q
    clear q
    go_wp2_with fail
    refine (MC.works Q.out).mono ?_
    rintro e' wc8 ⟨rfl, q⟩
    have Q := Lib.hid q
    clear q
    go_wp2_with fail
    go_ret
    exact ⟨rfl, Q.out.below⟩
theorem ever_of {x : Exp.Ex} {t : Int} (h : x.Lm t) : x.Evr := ⟨_, (lm_iff.1 h).1⟩
theorem ever_time {x : Exp.Ex} (hok : x.Ok) (h : x.Evr) : ∃ t, x.Lm t := by
  obtain ⟨n, hn⟩ := h
  obtain ⟨s, hs⟩ := bit_some (hok.ne 0 (by decide))
  obtain ⟨i, hi⟩ := bit_some (hok.ne 1 (by decide))
  obtain ⟨k, hk⟩ := bit_some (hok.ne 2 (by decide))
  have b0 : s < 60 := Nat.lt_succ_of_le (hok.inn 0 (by decide) s hs).2
  have b1 : i < 60 := Nat.lt_succ_of_le (hok.inn 1 (by decide) i hi).2
  have b2 : k < 24 := Nat.lt_succ_of_le (hok.inn 2 (by decide) k hk).2
  exact ⟨_, lm_mk hn b2 b1 b0 hk hi hs⟩
theorem walk (x : Exp.Ex) (w : World) (L : LayM w) (hx : x.Bd) :
    Calls Tryd.prog 13 #[.agg #[.int .u64 x.a0, .int .u64 x.a1, .int .u64 x.a2, .int .u64 x.a3, .int .u64 x.a4, .int .u64 x.a5, .bool x.b3, .bool x.b5]] w fun e w' => e = .returned (.bool true) ∧ Below w.heap.size w w' := by
  cases hk : x.okB with
  | false =>
    refine walk_err x 16 _ _ w L hx hk (by rw [hk]; rfl) (by decide) ?_ rfl rfl
    unfold errC; rw [if_pos hk]
  | true =>
    have h : errC x 0 [0] = 0 := errC_mk hk ⟨by omega, by omega⟩ (fun s hs => by
      have : s = 0 := by simpa using hs
      omega)
    refine walk_ok x _ (everO x) _ _ w L hx (by rw [hk]; rfl) h rfl rfl rfl rfl ?_
    have hl := nextO_is h
    have key : everO x = true ↔ ((nextO x 0 0).isSome || isO x 0 0) = true := by
      rw [everO_iff hk, Bool.or_eq_true, isO_iff h]
      constructor
      · intro hv
        obtain ⟨t, ht⟩ := ever_time (ok_of h) hv
        have hb := lm_in ht
        by_cases h0 : t = 0
        · right; subst h0; simpa using ht
        · left
          cases hq : nextO x 0 0 with
          | some v => rfl
          | none =>
            rw [hq] at hl
            exact absurd (by simpa using ht) (hl t (by omega) (by omega))
      · rintro (h1 | h1)
        · obtain ⟨v, hv⟩ := Option.isSome_iff_exists.1 h1
          rw [hv] at hl
          exact ever_of (t := v + 60 * 0) hl.2.2.1
        · exact ever_of (by simpa using h1)
    cases hq : everO x with
    | true => rw [hq] at key; exact (key.1 rfl).symm
    | false =>
      rw [hq] at key
      cases hz : ((nextO x 0 0).isSome || isO x 0 0) with
      | false => rfl
      | true => exact absurd (key.2 hz) (by simp)

set_option maxRecDepth 100000 in
theorem lifted (os : Os) (started : os.Started) (H : Type) (enc : TypeId × Value → H) :
    ReturnsInHanded {} Tryd.checked os 13 .any (fun w args => (Rows.matchEverSpec.pre enc Tryd.prog Tryd.f13 [] false w args ∧ laidMetH Tryd.prog Rows.matchEverRow.laid w) ∧ sizedMet enc Tryd.prog Tryd.f13 (OpenSpec.ofChange Rows.matchEverSpec) false w args)
      (Rows.matchEverSpec.post enc Tryd.prog Tryd.f13 false true false false) := by
  refine returnsInHanded_of_change_and (C := Tryd.checked) (X := fun w _ => laidMetH Tryd.prog Rows.matchEverRow.laid w) (fun _ _ _ hh h => h.of_heap hh) own started (by kernel_rfl) Tryd.func13
    (ChangeSpec.witness_shaped (enc := enc) (C := Tryd.checked) (os := os) (X := fun w _ => laidMetH Tryd.prog Rows.matchEverRow.laid w) false (World.laidAll Tryd.prog os Rows.matchEverRow.laid) #[.agg #[.int .u64 0, .int .u64 0, .int .u64 0, .int .u64 0, .int .u64 0, .int .u64 0, .bool false, .bool false]] 8 (World.laidAll_os _ _ _) (World.shaped_of_ZipB (by kernel_rfl) (by kernel_rfl)) (by kernel_rfl) (by kernel_rfl) (by kernel_rfl) (by rw [MakeChecks.laidMetH_plain _ _ _ (by kernel_rfl)]; exact laidMet_laidAll _ (by kernel_rfl) (by kernel_rfl))) ?_
  intro W base args ds gs before hval0 hW _ _ hL _
  have hval : ∀ (j : Nat) t v, Tryd.f13.params[j]? = some t → args[j]? = some v → Value.okWide Tryd.prog W .any base t v := hval0
  have hW' := hW
  obtain ⟨p, q, hA0, hV, rfl, hfz, hnd⟩ := hW
  have hA : DataW.TrodAll enc Tryd.prog W 0 (fun _ => true) true Tryd.f13.params.toList args.toList ds p := hA0
  rw [Tryd.params13] at hA hval
  obtain ⟨v0, vs0, d0, ds0, p0, q0, hargs, rfl, rfl, h0, r0⟩ := trodAll_cons hA
  obtain ⟨rfl, rfl, rfl⟩ := trodAll_nil r0
  obtain rfl : args = #[v0] := by cases args; simp_all
  obtain ⟨rfl, rfl⟩ := trodVars_none hV
  obtain ⟨x0, rfl, w0⟩ := open_expr (hval 0 24 v0 rfl rfl) h0
  have k0 := h0
  have lt0 : ∀ x ∈ p0, x.block < W.heap.size := by obtain ⟨m, hm⟩ := k0; exact DataW.trod_lt m _ _ _ hm
  clear hA0 hval0
  refine (walk x0 W (layM_of _ W (by kernel_rfl) (.head _) (.tail _ (.head _)) (by kernel_rfl) (by kernel_rfl) hL) w0).mono fun e W' ⟨he, bel⟩ => ?_
  subst he
  exact ⟨_, rfl, _, _, _, [], _, [], hW', trodAll_mk1 (shut_bool Tryd.underlying4 _), (trodAll_cons_mk (Below.trod laidOut (by kernel_rfl) (of_decide_eq_true (by kernel_rfl)) k0 bel lt0) trodAll_mk0), rfl, bel.frame _, fun h => by cases h⟩

theorem row_holds : Rows.MatchEverSaid :=
  OpenClaim.holds_of_wide 13 Tryd.f13 rfl rfl rfl rfl rfl rfl rfl ⟨rfl, rfl, rfl, rfl, rfl⟩ rfl rfl rfl rfl rfl (by kernel_rfl) Tryd.func13 (by kernel_rfl)
    (of_decide_eq_true (by kernel_rfl)) (by unfold Func.isWrapper; first | (rw [if_pos (by decide +kernel)]; kernel_rfl) | (rw [if_neg (by decide +kernel)]; exact ⟨rfl, rfl⟩))
    (fun os started H enc _ => lifted os started H enc)

theorem proved : Rows.MatchEverCardSaid :=
  Claim7.holds_tied_plain_at .later [] Rows.matchEverCard.laidKinds true Rows.matchEverCard.stood.harness Rows.matchEverCard.stood.looks
    row_holds (fun _ h => by cases h) (by kernel_rfl) (fun _ h => by cases h) matchEver_row_tie rfl ⟨rfl, rfl⟩ (by kernel_rfl) rfl
    (fun f fn hf hfn => by
      obtain rfl : f = 13 := Option.some.inj ((show Tryd.prog.funcNamed Rows.matchEverRow.func = some 13 by kernel_rfl).symm.trans hf) |>.symm
      obtain rfl : fn = Tryd.f13 := (Option.some.inj (Tryd.func13.symm.trans hfn)).symm
      exact ⟨looks0, fun j t ht => by
        rw [Tryd.params13] at ht
        have hm : t ∈ [24] := by simpa using Array.mem_of_getElem? ht
        have hall : ([24].all fun u => !Tryd.prog.wantsStandIn u) = true := by kernel_rfl
        exact (show Tryd.prog.wantsStandIn t = false by simpa using List.all_eq_true.1 hall t hm)⟩)
    (by kernel_rfl)

end Go.Proofs.YtbehendogcghjaaDoor.matchEver
