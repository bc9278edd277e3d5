/- For every expression, zone and time, MatchNearest returns true: the next time is matched, and none between; what is matched is the next one of the second before, and the one before of the second behind. Condition: the program's tables start as its text lays them (tied). -/
import Derived.Test.YtbehendogcghjaaDoorMatCx
namespace Go.Proofs.YtbehendogcghjaaDoor.matchNearest
open Go.ChangeShapes Go.WideShapes Go.ChangeAt Go.RowKit Go.ChangeMaps

set_option maxRecDepth 100000 in
set_option maxHeartbeats 4000000 in
theorem walk_err (x : Exp.Ex) (z t e : Int) (w : World) (L : LayM w) (hx : x.Bd) (he : errC x z [t] = e) (h0 : e ≠ 0) (hn : nextO x z t = none) :
    Calls Tryd.prog 7 #[.agg #[.int .u64 x.a0, .int .u64 x.a1, .int .u64 x.a2, .int .u64 x.a3, .int .u64 x.a4, .int .u64 x.a5, .bool x.b3, .bool x.b5], .int .i64 z, .int .i64 t] w fun e w' => e = .returned (.bool true) ∧ Below w.heap.size w w' := by
  have t1 : (e != 0) = true := by simpa using h0
  have Q := Lib.hid ((MC.start L).box x)
  have NX := Lib.hid (fun l W (h : MC w l W) => h.toNext x hx z t 0 false e (by rw [hn]; rfl) (by rw [hn]; rfl) he)
  clear hx he h0 L hn
  go_enter Tryd.func7, Tryd.ntmps7
  go_wp2_with fail
  refine (NX.out _ _ Q.out).mono ?_
  rintro e' wc1 ⟨rfl, q⟩
  obtain ⟨B, hB⟩ : ∃ B, w.heap.size = B := ⟨_, rfl⟩
  rw [hB] at q
  obtain ⟨c0, c1, c2, c3, c4, c5, c6, c7⟩ := q.cells B x (by simp)
  have Q := Lib.hid q
  clear q
  go_wp2_with fail
  refine (MC.works Q.out).mono ?_
  rintro e' wc2 ⟨rfl, q⟩
  have Q := Lib.hid q
  clear q
  go_wp2_with fail
  go_ret
  exact ⟨rfl, Q.out.below⟩
set_option maxRecDepth 100000 in
set_option maxHeartbeats 4000000 in
theorem walk_none (x : Exp.Ex) (z t : Int) (w : World) (L : LayM w) (hx : x.Bd) (he : errC x z [t] = 0) (hn : nextO x z t = none) :
    Calls Tryd.prog 7 #[.agg #[.int .u64 x.a0, .int .u64 x.a1, .int .u64 x.a2, .int .u64 x.a3, .int .u64 x.a4, .int .u64 x.a5, .bool x.b3, .bool x.b5], .int .i64 z, .int .i64 t] w fun e w' => e = .returned (.bool true) ∧ Below w.heap.size w w' := by
  have Q := Lib.hid ((MC.start L).box x)
  have NX := Lib.hid (fun l W (h : MC w l W) => h.toNext x hx z t 0 false 0 (by rw [hn]; rfl) (by rw [hn]; rfl) he)
  clear hx he L hn
  go_enter Tryd.func7, Tryd.ntmps7
  go_wp2_with fail
  refine (NX.out _ _ Q.out).mono ?_
  rintro e' wc3 ⟨rfl, q⟩
  obtain ⟨B, hB⟩ : ∃ B, w.heap.size = B := ⟨_, rfl⟩
  rw [hB] at q
  obtain ⟨c0, c1, c2, c3, c4, c5, c6, c7⟩ := q.cells B x (by simp)
  have Q := Lib.hid q
  clear q
  go_wp2_with fail
  refine (MC.works Q.out).mono ?_
  rintro e' wc4 ⟨rfl, q⟩
  have Q := Lib.hid q
  clear q
  go_wp2_with fail
  go_ret
  exact ⟨rfl, Q.out.below⟩
/-- what the loop looks at -/
structure Gap (x : Exp.Ex) (z t n g : Int) : Prop where
  t0 : 0 ≤ t
  t1 : t < n
  n1 : n ≤ 253402300799
  g0 : n - t = g
  at0 : ∀ a, t < a → a < n → isO x z a = false ∧ errC x z [a] = 0
set_option maxRecDepth 100000 in
set_option maxHeartbeats 4000000 in
theorem walk_some (x : Exp.Ex) (z t n g : Int) (w : World) (L : LayM w) (hx : x.Bd) (he : errC x z [t] = 0) (hn : nextO x z t = some n) (G : Gap x z t n g) (hi : isO x z n = true) (en : errC x z [n] = 0) (ea : errC x z [n - 1] = 0) (ha : nextO x z (n - 1) = some n) (hb : n ≠ 253402300799 → errC x z [n + 1] = 0 ∧ prevO x z (n + 1) = some n) :
    Calls Tryd.prog 7 #[.agg #[.int .u64 x.a0, .int .u64 x.a1, .int .u64 x.a2, .int .u64 x.a3, .int .u64 x.a4, .int .u64 x.a5, .bool x.b3, .bool x.b5], .int .i64 z, .int .i64 t] w fun e w' => e = .returned (.bool true) ∧ Below w.heap.size w w' := by
  have Q := Lib.hid ((MC.start L).box x)
  have NX := Lib.hid (fun l W (h : MC w l W) => h.toNext x hx z t n true 0 (by rw [hn]; rfl) (by rw [hn]; rfl) he)
  have NA := Lib.hid (fun l W (h : MC w l W) => h.toNext x hx z (n - 1) n true 0 (by rw [ha]; rfl) (by rw [ha]; rfl) ea)
  have IN := Lib.hid (fun l W (h : MC w l W) => h.is x hx z n true 0 hi en)
  have IA := Lib.hid (fun (a : Int) (h1 : t < a) (h2 : a < n) l W (h : MC w l W) => h.is x hx z a false 0 (G.at0 a h1 h2).1 (G.at0 a h1 h2).2)
  have PB := Lib.hid (fun (hq : n ≠ 253402300799) l W (h : MC w l W) => h.toPrev x hx z (n + 1) n true 0 (by rw [(hb hq).2]; rfl) (by rw [(hb hq).2]; rfl) (hb hq).1)
  have hg := G.g0; have h0 := G.t0; have h1 := G.t1; have h2 := G.n1
  have t1 : decide (n ≤ t) = false := by rw [decide_eq_false_iff_not]; omega
  have t2 : decide ((253402300799 : Int) < n) = false := by rw [decide_eq_false_iff_not]; omega
  have w1 : IntKind.i64.wrap (n - t) = g := by rw [IntKind.wrap_i64]; omega
  have w2 : IntKind.i64.wrap (n - 1) = n - 1 := by rw [IntKind.wrap_i64]; omega
  have w3 : IntKind.i64.wrap (n + 1) = n + 1 := by rw [IntKind.wrap_i64]; omega
  have GG := Lib.hid (And.intro hg (And.intro h0 (And.intro h1 h2)))
  clear hx he hn hi en ea ha hb L G hg h0 h1 h2
  go_enter Tryd.func7, Tryd.ntmps7
  go_wp2_with fail
  refine (NX.out _ _ Q.out).mono ?_
  rintro e' wc5 ⟨rfl, q⟩
  obtain ⟨B, hB⟩ : ∃ B, w.heap.size = B := ⟨_, rfl⟩
  rw [hB] at q
  obtain ⟨c0, c1, c2, c3, c4, c5, c6, c7⟩ := q.cells B x (by simp)
  have Q := Lib.hid q
  clear q
  go_wp2_with fail
  refine (IN.out _ _ Q.out).mono ?_
  rintro e' wc6 ⟨rfl, q⟩
  obtain ⟨c0, c1, c2, c3, c4, c5, c6, c7⟩ := q.cells B x (by simp)
  have Q := Lib.hid q
  clear q
  go_wp2_with fail
  go_loopw [13] (fun iv wr => ∃ k : Nat, 1 ≤ k ∧ (k : Int) ≤ 201 ∧ iv = .int .i64 k ∧ Hid (MC w [(B, x)] wr)) (fun iv _ => 300 - (intOf iv).toNat)
  case atStart => exact ⟨1, by omega, by omega, rfl, Q⟩
  case round =>
    obtain ⟨k, hk, hk2, rfl, Q⟩ := hrel
    obtain ⟨c0, c1, c2, c3, c4, c5, c6, c7⟩ := Q.out.cells B x (by simp)
    obtain ⟨hg, h0, h1, h2⟩ := GG.out
    have wk : IntKind.i64.wrap (t + (k : Int)) = t + (k : Int) := by rw [IntKind.wrap_i64]; omega
    have wk1 : IntKind.i64.wrap ((k : Int) + 1) = (k : Int) + 1 := by rw [IntKind.wrap_i64]; omega
    by_cases hlt : (k : Int) < min g 201
    · have d1 : decide ((k : Int) < min g 201) = true := decide_eq_true hlt
      have K1 : Hid ((k : Int) < g ∧ k ≤ 200) := Lib.hid (by omega)
      have HK := Lib.hid (And.intro hk hk2)
      by_cases big : 201 < g
      · have d2 : decide (201 < g) = true := decide_eq_true big
        obtain ⟨qv, hq⟩ : ∃ q, g / 201 = q := ⟨_, rfl⟩
        obtain ⟨m, hm⟩ : ∃ m, qv * (k : Int) = m := ⟨_, rfl⟩
        have q1 : 1 ≤ qv := by omega
        have q2 : qv * 201 ≤ g := by omega
        have m1 : 1 ≤ m := by rw [← hm]; exact Int.mul_pos (by omega) (by omega)
        have m2 : m ≤ qv * 200 := by rw [← hm]; exact Int.mul_le_mul_of_nonneg_left (by have := K1.out.2; omega) (by omega)
        have wd : IntKind.i64.wrap (g.tdiv 201) = qv := by rw [Int.tdiv_eq_ediv_of_nonneg (by omega), IntKind.wrap_i64]; omega
        have wm : IntKind.i64.wrap (qv * (k : Int)) = m := by rw [hm, IntKind.wrap_i64]; omega
        have wa : IntKind.i64.wrap (t + m) = t + m := by rw [IntKind.wrap_i64]; omega
        have d3 : decide (t + m < n) = true := by rw [decide_eq_true_iff]; omega
        have IA' := Lib.hid (IA.out (t + m) (by omega) (by omega))
        clear hm m1 m2 q1 q2 hq big hlt hg h0 h1 h2 hk hk2
        go_wp2_with fail
        refine (IA'.out _ _ Q.out).mono ?_
        rintro e' wc7 ⟨rfl, q⟩
        obtain ⟨c0, c1, c2, c3, c4, c5, c6, c7⟩ := q.cells B x (by simp)
        have Q := Lib.hid q
        clear q
        go_wp2_with fail
        go_roundw
        case rel => exact ⟨k + 1, by omega, by have := K1.out.2; omega, by go_num, Q⟩
        case measure => simp [intOf]; have := K1.out.2; omega
      · have d2 : decide (201 < g) = false := decide_eq_false big
        have d3 : decide (t + (k : Int) < n) = true := by rw [decide_eq_true_iff]; omega
        have IA' := Lib.hid (IA.out (t + (k : Int)) (by omega) (by omega))
        clear big hlt hg h0 h1 h2 hk hk2
        go_wp2_with fail
        refine (IA'.out _ _ Q.out).mono ?_
        rintro e' wc8 ⟨rfl, q⟩
        obtain ⟨c0, c1, c2, c3, c4, c5, c6, c7⟩ := q.cells B x (by simp)
        have Q := Lib.hid q
        clear q
        go_wp2_with fail
        go_roundw
        case rel => exact ⟨k + 1, by omega, by have := K1.out.2; omega, by go_num, Q⟩
        case measure => simp [intOf]; have := K1.out.2; omega
    · have d1 : decide ((k : Int) < min g 201) = false := decide_eq_false hlt
      clear hlt hk hk2
      by_cases hmax : n = 253402300799
      · have d2 : (n == 253402300799) = true := by rw [hmax]; rfl
        clear hg h0 h1 h2 hmax
        go_wp2_with fail
        refine (NA.out _ _ Q.out).mono ?_
        rintro e' wc9 ⟨rfl, q⟩
        obtain ⟨c0, c1, c2, c3, c4, c5, c6, c7⟩ := q.cells B x (by simp)
        have Q := Lib.hid q
        clear q
        go_wp2_with fail
        refine (MC.works Q.out).mono ?_
        rintro e' wc10 ⟨rfl, q⟩
        have Q := Lib.hid q
        clear q
        go_wp2_with fail
        go_ret
        exact ⟨rfl, Q.out.below⟩
      · have d2 : (n == 253402300799) = false := by rw [beq_eq_false_iff_ne]; exact hmax
        have PB' := Lib.hid (PB.out hmax)
        clear hg h0 h1 h2 hmax
        go_wp2_with fail
        refine (NA.out _ _ Q.out).mono ?_
        rintro e' wc11 ⟨rfl, q⟩
        obtain ⟨c0, c1, c2, c3, c4, c5, c6, c7⟩ := q.cells B x (by simp)
        have Q := Lib.hid q
        clear q
        go_wp2_with fail
        refine (PB'.out _ _ Q.out).mono ?_
        rintro e' wc12 ⟨rfl, q⟩
        obtain ⟨c0, c1, c2, c3, c4, c5, c6, c7⟩ := q.cells B x (by simp)
        have Q := Lib.hid q
        clear q
        go_wp2_with fail
        refine (MC.works Q.out).mono ?_
        rintro e' wc13 ⟨rfl, q⟩
        have Q := Lib.hid q
        clear q
        go_wp2_with fail
        go_ret
        exact ⟨rfl, Q.out.below⟩
theorem walk (x : Exp.Ex) (z t : Int) (w : World) (L : LayM w) (hx : x.Bd) (_ : (Lit.int .i64 z).wf = true) (_ : (Lit.int .i64 t).wf = true) :
    Calls Tryd.prog 7 #[.agg #[.int .u64 x.a0, .int .u64 x.a1, .int .u64 x.a2, .int .u64 x.a3, .int .u64 x.a4, .int .u64 x.a5, .bool x.b3, .bool x.b5], .int .i64 z, .int .i64 t] w fun e w' => e = .returned (.bool true) ∧ Below w.heap.size w w' := by
  by_cases h : errC x z [t] = 0
  · obtain ⟨hk, hz, ht⟩ := errC_one h
    cases hn : nextO x z t with
    | none => exact walk_none x z t w L hx h hn
    | some n =>
      have l := nextO_is h
      rw [hn] at l
      obtain ⟨l1, l2, l3, l4⟩ := l
      have one : ∀ s, 0 ≤ s → s ≤ 253402300799 → errC x z [s] = 0 := fun s a b => errC_mk hk hz (fun r hr => by
        have : r = s := by simpa using hr
        omega)
      have en := one n (by omega) l2
      have ea := one (n - 1) (by omega) (by omega)
      refine walk_some x z t n (n - t) w L hx h hn ⟨by omega, by omega, l2, rfl, fun a a1 a2 => ⟨?_, one a (by omega) (by omega)⟩⟩ ((isO_iff en).2 l3) en ea ?_ (fun hmax => ⟨one _ (by omega) (by omega), ?_⟩)
      · cases q : isO x z a with
        | false => rfl
        | true => exact absurd (isO_in q).2 (l4 a (by omega) a2)
      · exact Mat.Least.uniq (nextO_is ea) ⟨by omega, l2, l3, fun y y1 y2 => absurd y1 (by omega)⟩
      · exact Mat.Most.uniq (prevO_is (one (n + 1) (by omega) (by omega))) ⟨by omega, by omega, l3, fun y y1 y2 => absurd y1 (by omega)⟩
  · refine walk_err x z t _ w L hx rfl h ?_
    unfold nextO; rw [if_neg h]

set_option maxRecDepth 100000 in
theorem lifted (os : Os) (started : os.Started) (H : Type) (enc : TypeId × Value → H) :
    ReturnsInHanded {} Tryd.checked os 7 .any (fun w args => (Rows.matchNearestSpec.pre enc Tryd.prog Tryd.f7 [] false w args ∧ laidMetH Tryd.prog Rows.matchNearestRow.laid w) ∧ sizedMet enc Tryd.prog Tryd.f7 (OpenSpec.ofChange Rows.matchNearestSpec) false w args)
      (Rows.matchNearestSpec.post enc Tryd.prog Tryd.f7 false true false false) := by
  refine returnsInHanded_of_change_and (C := Tryd.checked) (X := fun w _ => laidMetH Tryd.prog Rows.matchNearestRow.laid w) (fun _ _ _ hh h => h.of_heap hh) own started (by kernel_rfl) Tryd.func7
    (ChangeSpec.witness_shaped (enc := enc) (C := Tryd.checked) (os := os) (X := fun w _ => laidMetH Tryd.prog Rows.matchNearestRow.laid w) false (World.laidAll Tryd.prog os Rows.matchNearestRow.laid) #[.agg #[.int .u64 0, .int .u64 0, .int .u64 0, .int .u64 0, .int .u64 0, .int .u64 0, .bool false, .bool false], .int .i64 0, .int .i64 0] 8 (World.laidAll_os _ _ _) (World.shaped_of_ZipB (by kernel_rfl) (by kernel_rfl)) (by kernel_rfl) (by kernel_rfl) (by kernel_rfl) (by rw [MakeChecks.laidMetH_plain _ _ _ (by kernel_rfl)]; exact laidMet_laidAll _ (by kernel_rfl) (by kernel_rfl))) ?_
  intro W base args ds gs before hval0 hW _ _ hL _
  have hval : ∀ (j : Nat) t v, Tryd.f7.params[j]? = some t → args[j]? = some v → Value.okWide Tryd.prog W .any base t v := hval0
  have hW' := hW
  obtain ⟨p, q, hA0, hV, rfl, hfz, hnd⟩ := hW
  have hA : DataW.TrodAll enc Tryd.prog W 0 (fun _ => true) true Tryd.f7.params.toList args.toList ds p := hA0
  rw [Tryd.params7] at hA hval
  obtain ⟨v0, vs0, d0, ds0, p0, q0, hargs, rfl, rfl, h0, r0⟩ := trodAll_cons hA
  obtain ⟨v1, vs1, d1, ds1, p1, q1, rfl, rfl, rfl, h1, r1⟩ := trodAll_cons r0
  obtain ⟨v2, vs2, d2, ds2, p2, q2, rfl, rfl, rfl, h2, r2⟩ := trodAll_cons r1
  obtain ⟨rfl, rfl, rfl⟩ := trodAll_nil r2
  obtain rfl : args = #[v0, v1, v2] := by cases args; simp_all
  obtain ⟨rfl, rfl⟩ := trodVars_none hV
  obtain ⟨x0, rfl, w0⟩ := open_expr (hval 0 24 v0 rfl rfl) h0
  have k0 := h0
  have lt0 : ∀ x ∈ p0, x.block < W.heap.size := by obtain ⟨m, hm⟩ := k0; exact DataW.trod_lt m _ _ _ hm
  obtain ⟨a1, rfl, rfl, rfl, w1⟩ := open_int Tryd.underlying3 (hval 1 3 v1 rfl rfl) h1
  obtain ⟨a2, rfl, rfl, rfl, w2⟩ := open_int Tryd.underlying2 (hval 2 2 v2 rfl rfl) h2
  clear hA0 hval0
  refine (walk x0 a1 a2 W (layM_of _ W (by kernel_rfl) (.head _) (.tail _ (.head _)) (by kernel_rfl) (by kernel_rfl) hL) w0 w1 w2).mono fun e W' ⟨he, bel⟩ => ?_
  subst he
  exact ⟨_, rfl, _, _, _, [], _, [], hW', trodAll_mk1 (shut_bool Tryd.underlying4 _), (trodAll_cons_mk (Below.trod laidOut (by kernel_rfl) (of_decide_eq_true (by kernel_rfl)) k0 bel lt0) (trodAll_cons_mk (shut_int Tryd.underlying3 w1) (trodAll_cons_mk (shut_int Tryd.underlying2 w2) trodAll_mk0))), rfl, bel.frame _, fun h => by cases h⟩

theorem row_holds : Rows.MatchNearestSaid :=
  OpenClaim.holds_of_wide 7 Tryd.f7 rfl rfl rfl rfl rfl rfl rfl ⟨rfl, rfl, rfl, rfl, rfl⟩ rfl rfl rfl rfl rfl (by kernel_rfl) Tryd.func7 (by kernel_rfl)
    (of_decide_eq_true (by kernel_rfl)) (by unfold Func.isWrapper; first | (rw [if_pos (by decide +kernel)]; kernel_rfl) | (rw [if_neg (by decide +kernel)]; exact ⟨rfl, rfl⟩))
    (fun os started H enc _ => lifted os started H enc)

theorem proved : Rows.MatchNearestCardSaid :=
  Claim7.holds_tied_plain_at .later [] Rows.matchNearestCard.laidKinds true Rows.matchNearestCard.stood.harness Rows.matchNearestCard.stood.looks
    row_holds (fun _ h => by cases h) (by kernel_rfl) (fun _ h => by cases h) matchNearest_row_tie rfl ⟨rfl, rfl⟩ (by kernel_rfl) rfl
    (fun f fn hf hfn => by
      obtain rfl : f = 7 := Option.some.inj ((show Tryd.prog.funcNamed Rows.matchNearestRow.func = some 7 by kernel_rfl).symm.trans hf) |>.symm
      obtain rfl : fn = Tryd.f7 := (Option.some.inj (Tryd.func7.symm.trans hfn)).symm
      exact ⟨looks0, fun j t ht => by
        rw [Tryd.params7] at ht
        have hm : t ∈ [24, 3, 2] := by simpa using Array.mem_of_getElem? ht
        have hall : ([24, 3, 2].all fun u => !Tryd.prog.wantsStandIn u) = true := by kernel_rfl
        exact (show Tryd.prog.wantsStandIn t = false by simpa using List.all_eq_true.1 hall t hm)⟩)
    (by kernel_rfl)

end Go.Proofs.YtbehendogcghjaaDoor.matchNearest
