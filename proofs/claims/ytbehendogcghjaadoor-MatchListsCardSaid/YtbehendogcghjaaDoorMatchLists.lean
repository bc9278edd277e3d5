/- For every expression, zone, span and number, MatchLists returns true: the first 20 times of the span at most are as the document's program says, or the errors. Condition: the program's tables start as its text lays them (tied). -/
import Derived.Test.YtbehendogcghjaaDoorMatRp
namespace Go.Proofs.YtbehendogcghjaaDoor.matchLists
open Go.ChangeShapes Go.WideShapes Go.ChangeAt Go.RowKit Go.ChangeMaps

/-- List of the document's program, behind that of the program -/
theorem rlist {w W : World} {l : List (Nat × Exp.Ex)} {v : Value} {r : List Int} (h : MC w l W) (hv : RowT W v r) (x : Exp.Ex) (hx : x.Bd) (z a b most : Int) (e : Int) (hr : listO x z a b most = r) (he : errC x z [a, b] = e) :
    Calls Tryd.prog 27 #[.agg #[.int .u64 x.a0, .int .u64 x.a1, .int .u64 x.a2, .int .u64 x.a3, .int .u64 x.a4, .int .u64 x.a5, .bool x.b3, .bool x.b5], .int .i64 z, .int .i64 a, .int .i64 b, .int .i64 most] W fun e' W' => ∃ A cap, e' = .returned (.tuple #[.slice A r.length cap, .int .i64 e]) ∧ RowT W' (.slice A r.length cap) r ∧ RowT W' v r ∧ MC w l W' :=
  (rlist_any x hx z a b most W h.lay).mono fun e' W' ⟨u, h1, h2⟩ => by
    rw [hr] at h2
    have t := h2.rowT
    obtain ⟨A, cap, e1, _⟩ := id t
    subst e1
    exact ⟨A, cap, by rw [h1, he], t, hv.below h2.below, h.next h2.below⟩
theorem same {w W : World} {l : List (Nat × Exp.Ex)} {v u : Value} {r : List Int} (h : MC w l W) (hv : RowT W v r) (hu : RowT W u r) (hl : r.length ≤ 1000000) :
    Calls Tryd.prog 28 #[v, u] W fun e' W' => e' = .returned (.bool true) ∧ MC w l W' :=
  (same_any v u r r true (by simp) hl W hv hu).mono fun _ _ ⟨h1, h2⟩ => ⟨h1, h.next h2⟩
set_option maxRecDepth 100000 in
set_option maxHeartbeats 4000000 in
theorem walk (x : Exp.Ex) (z a b most : Int) (w : World) (L : LayM w) (hx : x.Bd) (_ : (Lit.int .i64 z).wf = true) (_ : (Lit.int .i64 a).wf = true) (_ : (Lit.int .i64 b).wf = true) (_ : (Lit.int .i64 most).wf = true) :
    Calls Tryd.prog 5 #[.agg #[.int .u64 x.a0, .int .u64 x.a1, .int .u64 x.a2, .int .u64 x.a3, .int .u64 x.a4, .int .u64 x.a5, .bool x.b3, .bool x.b5], .int .i64 z, .int .i64 a, .int .i64 b, .int .i64 most] w fun e w' => e = .returned (.bool true) ∧ Below w.heap.size w w' := by
  obtain ⟨e, he⟩ : ∃ e, errC x z [a, b] = e := ⟨_, rfl⟩
  obtain ⟨M, hM⟩ : ∃ M, min most 20 = M := ⟨_, rfl⟩
  obtain ⟨r, hr⟩ : ∃ r, listO x z a b M = r := ⟨_, rfl⟩
  have RL : Hid (r.length ≤ 1000000) := Lib.hid (by
    rw [← hr]
    unfold listO
    split
    · have := lstF_len x z (loc1 z b) (min M 100000).toNat (loc0 z a)
      omega
    · simp)
  have Q := Lib.hid ((MC.start L).box x)
  have L1 := Lib.hid (fun l W (h : MC w l W) => h.list x hx z a b M r e hr he)
  have L2 := Lib.hid (fun l W v (h : MC w l W) (hv : RowT W v r) => rlist h hv x hx z a b M e hr he)
  clear hx he hr L
  go_enter Tryd.func5, Tryd.ntmps5
  go_wp2_with fail
  refine (L1.out _ _ Q.out).mono ?_
  rintro e' w1 ⟨A1, p1, rfl, R1, q⟩
  obtain ⟨B, hB⟩ : ∃ B, w.heap.size = B := ⟨_, rfl⟩
  rw [hB] at q
  obtain ⟨c0, c1, c2, c3, c4, c5, c6, c7⟩ := q.cells B x (by simp)
  have Q := Lib.hid q
  have R1 := Lib.hid R1
  clear q
  go_wp2_with fail
  refine (L2.out _ _ _ Q.out R1.out).mono ?_
  rintro e' w2 ⟨A2, p2, rfl, R2, R1, q⟩
  have Q := Lib.hid q
  have R1 := Lib.hid R1
  have R2 := Lib.hid R2
  clear q
  go_wp2_with fail
  refine (same Q.out R1.out R2.out RL.out).mono ?_
  rintro e' w3 ⟨rfl, q⟩
  have Q := Lib.hid q
  clear q
  go_wp2_with fail
  refine (MC.works Q.out).mono ?_
  rintro e' wc1 ⟨rfl, q⟩
  have Q := Lib.hid q
  clear q
  go_wp2_with fail
  go_ret
  exact ⟨rfl, Q.out.below⟩

set_option maxRecDepth 100000 in
theorem lifted (os : Os) (started : os.Started) (H : Type) (enc : TypeId × Value → H) :
    ReturnsInHanded {} Tryd.checked os 5 .any (fun w args => (Rows.matchListsSpec.pre enc Tryd.prog Tryd.f5 [] false w args ∧ laidMetH Tryd.prog Rows.matchListsRow.laid w) ∧ sizedMet enc Tryd.prog Tryd.f5 (OpenSpec.ofChange Rows.matchListsSpec) false w args)
      (Rows.matchListsSpec.post enc Tryd.prog Tryd.f5 false true false false) := by
  refine returnsInHanded_of_change_and (C := Tryd.checked) (X := fun w _ => laidMetH Tryd.prog Rows.matchListsRow.laid w) (fun _ _ _ hh h => h.of_heap hh) own started (by kernel_rfl) Tryd.func5
    (ChangeSpec.witness_shaped (enc := enc) (C := Tryd.checked) (os := os) (X := fun w _ => laidMetH Tryd.prog Rows.matchListsRow.laid w) false (World.laidAll Tryd.prog os Rows.matchListsRow.laid) #[.agg #[.int .u64 0, .int .u64 0, .int .u64 0, .int .u64 0, .int .u64 0, .int .u64 0, .bool false, .bool false], .int .i64 0, .int .i64 0, .int .i64 0, .int .i64 0] 8 (World.laidAll_os _ _ _) (World.shaped_of_ZipB (by kernel_rfl) (by kernel_rfl)) (by kernel_rfl) (by kernel_rfl) (by kernel_rfl) (by rw [MakeChecks.laidMetH_plain _ _ _ (by kernel_rfl)]; exact laidMet_laidAll _ (by kernel_rfl) (by kernel_rfl))) ?_
  intro W base args ds gs before hval0 hW _ _ hL _
  have hval : ∀ (j : Nat) t v, Tryd.f5.params[j]? = some t → args[j]? = some v → Value.okWide Tryd.prog W .any base t v := hval0
  have hW' := hW
  obtain ⟨p, q, hA0, hV, rfl, hfz, hnd⟩ := hW
  have hA : DataW.TrodAll enc Tryd.prog W 0 (fun _ => true) true Tryd.f5.params.toList args.toList ds p := hA0
  rw [Tryd.params5] at hA hval
  obtain ⟨v0, vs0, d0, ds0, p0, q0, hargs, rfl, rfl, h0, r0⟩ := trodAll_cons hA
  obtain ⟨v1, vs1, d1, ds1, p1, q1, rfl, rfl, rfl, h1, r1⟩ := trodAll_cons r0
  obtain ⟨v2, vs2, d2, ds2, p2, q2, rfl, rfl, rfl, h2, r2⟩ := trodAll_cons r1
  obtain ⟨v3, vs3, d3, ds3, p3, q3, rfl, rfl, rfl, h3, r3⟩ := trodAll_cons r2
  obtain ⟨v4, vs4, d4, ds4, p4, q4, rfl, rfl, rfl, h4, r4⟩ := trodAll_cons r3
  obtain ⟨rfl, rfl, rfl⟩ := trodAll_nil r4
  obtain rfl : args = #[v0, v1, v2, v3, v4] := by cases args; simp_all
  obtain ⟨rfl, rfl⟩ := trodVars_none hV
  obtain ⟨x0, rfl, w0⟩ := open_expr (hval 0 24 v0 rfl rfl) h0
  have k0 := h0
  have lt0 : ∀ x ∈ p0, x.block < W.heap.size := by obtain ⟨m, hm⟩ := k0; exact DataW.trod_lt m _ _ _ hm
  obtain ⟨a1, rfl, rfl, rfl, w1⟩ := open_int Tryd.underlying3 (hval 1 3 v1 rfl rfl) h1
  obtain ⟨a2, rfl, rfl, rfl, w2⟩ := open_int Tryd.underlying2 (hval 2 2 v2 rfl rfl) h2
  obtain ⟨a3, rfl, rfl, rfl, w3⟩ := open_int Tryd.underlying2 (hval 3 2 v3 rfl rfl) h3
  obtain ⟨a4, rfl, rfl, rfl, w4⟩ := open_int Tryd.underlying3 (hval 4 3 v4 rfl rfl) h4
  clear hA0 hval0
  refine (walk x0 a1 a2 a3 a4 W (layM_of _ W (by kernel_rfl) (.head _) (.tail _ (.head _)) (by kernel_rfl) (by kernel_rfl) hL) w0 w1 w2 w3 w4).mono fun e W' ⟨he, bel⟩ => ?_
  subst he
  exact ⟨_, rfl, _, _, _, [], _, [], hW', trodAll_mk1 (shut_bool Tryd.underlying4 _), (trodAll_cons_mk (Below.trod laidOut (by kernel_rfl) (of_decide_eq_true (by kernel_rfl)) k0 bel lt0) (trodAll_cons_mk (shut_int Tryd.underlying3 w1) (trodAll_cons_mk (shut_int Tryd.underlying2 w2) (trodAll_cons_mk (shut_int Tryd.underlying2 w3) (trodAll_cons_mk (shut_int Tryd.underlying3 w4) trodAll_mk0))))), rfl, bel.frame _, fun h => by cases h⟩

theorem row_holds : Rows.MatchListsSaid :=
  OpenClaim.holds_of_wide 5 Tryd.f5 rfl rfl rfl rfl rfl rfl rfl ⟨rfl, rfl, rfl, rfl, rfl⟩ rfl rfl rfl rfl rfl (by kernel_rfl) Tryd.func5 (by kernel_rfl)
    (of_decide_eq_true (by kernel_rfl)) (by unfold Func.isWrapper; first | (rw [if_pos (by decide +kernel)]; kernel_rfl) | (rw [if_neg (by decide +kernel)]; exact ⟨rfl, rfl⟩))
    (fun os started H enc _ => lifted os started H enc)

theorem proved : Rows.MatchListsCardSaid :=
  Claim7.holds_tied_plain_at .later [] Rows.matchListsCard.laidKinds true Rows.matchListsCard.stood.harness Rows.matchListsCard.stood.looks
    row_holds (fun _ h => by cases h) (by kernel_rfl) (fun _ h => by cases h) matchLists_row_tie rfl ⟨rfl, rfl⟩ (by kernel_rfl) rfl
    (fun f fn hf hfn => by
      obtain rfl : f = 5 := Option.some.inj ((show Tryd.prog.funcNamed Rows.matchListsRow.func = some 5 by kernel_rfl).symm.trans hf) |>.symm
      obtain rfl : fn = Tryd.f5 := (Option.some.inj (Tryd.func5.symm.trans hfn)).symm
      exact ⟨looks0, fun j t ht => by
        rw [Tryd.params5] at ht
        have hm : t ∈ [24, 3, 2, 2, 3] := by simpa using Array.mem_of_getElem? ht
        have hall : ([24, 3, 2, 2, 3].all fun u => !Tryd.prog.wantsStandIn u) = true := by kernel_rfl
        exact (show Tryd.prog.wantsStandIn t = false by simpa using List.all_eq_true.1 hall t hm)⟩)
    (by kernel_rfl)

end Go.Proofs.YtbehendogcghjaaDoor.matchLists
