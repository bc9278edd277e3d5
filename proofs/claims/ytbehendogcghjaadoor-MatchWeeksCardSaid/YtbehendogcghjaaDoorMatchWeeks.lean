/- For every expression, zone and time, MatchWeeks returns true: without days of the month, and in all months, a time is matched exactly if it is a week later; without any days just if it is a day later. Condition: the program's tables start as its text lays them (tied). -/
import Derived.Test.YtbehendogcghjaaDoorMatCx
namespace Go.Proofs.YtbehendogcghjaaDoor.matchWeeks
open Go.ChangeShapes Go.WideShapes Go.ChangeAt Go.RowKit Go.ChangeMaps

/-- all days of the month, all months -/
abbrev wk (x : Exp.Ex) : Exp.Ex := ⟨x.a0, x.a1, x.a2, 4294967294, 8190, x.a5, true, x.b5⟩
/-- all days -/
abbrev al (x : Exp.Ex) : Exp.Ex := ⟨x.a0, x.a1, x.a2, 4294967294, 8190, 127, true, true⟩
theorem wk_bd {x : Exp.Ex} (h : x.Bd) : (wk x).Bd := fun i hi => six_cases hi (P := fun i => (wk x).at i < 2 ^ 64) (h 0 (by decide)) (h 1 (by decide)) (h 2 (by decide)) (show 4294967294 < 2 ^ 64 by decide) (show 8190 < 2 ^ 64 by decide) (h 5 (by decide))
theorem al_bd {x : Exp.Ex} (h : x.Bd) : (al x).Bd := fun i hi => six_cases hi (P := fun i => (al x).at i < 2 ^ 64) (h 0 (by decide)) (h 1 (by decide)) (h 2 (by decide)) (show 4294967294 < 2 ^ 64 by decide) (show 8190 < 2 ^ 64 by decide) (show 127 < 2 ^ 64 by decide)
theorem al_ok {x : Exp.Ex} (h : (wk x).Ok) : (al x).Ok where
  ne := fun i hi => six_cases hi (P := fun i => (al x).at i ≠ 0) (h.ne 0 (by decide)) (h.ne 1 (by decide)) (h.ne 2 (by decide)) (h.ne 3 (by decide)) (h.ne 4 (by decide)) ((Exp.okB_iff.1 exStar_ok).ne 5 (by decide))
  inn := fun i hi => six_cases hi (P := fun i => Fld.In (kd6 i) ((al x).at i)) (h.inn 0 (by decide)) (h.inn 1 (by decide)) (h.inn 2 (by decide)) (h.inn 3 (by decide)) (h.inn 4 (by decide)) ((Exp.okB_iff.1 exStar_ok).inn 5 (by decide))
  d := fun _ => h.d rfl
  w := fun _ => (Exp.okB_iff.1 exStar_ok).w rfl
theorem on_wk {x : Exp.Ex} {n : Int} (h0 : 0 ≤ n) (h1 : n ≤ 2932896) : (wk x).On n ↔ (x.b5 = true ∨ x.a5.testBit ((n + 4) % 7).toNat = true) := by
  obtain ⟨y, m, d, v, rfl⟩ := Civ.date_ex n h0 h1
  have q := Mat.on_iff (M := (wk x).a4) (D := (wk x).a3) (W := (wk x).a5) (b3 := (wk x).b3) (b5 := (wk x).b5) v
  unfold Exp.Ex.On
  rw [q]
  have hm : Nat.testBit 8190 m.toNat = true := by
    have all : ∀ k : Nat, k < 13 → 1 ≤ k → Nat.testBit 8190 k = true := by decide
    have := v.2.2.1; have := v.2.2.2.1
    exact all m.toNat (by omega) (by omega)
  unfold Mat.mt
  simp [hm]
theorem lm_wk {x : Exp.Ex} {s s' : Int} (k : Int) (h0 : 0 ≤ s) (h1 : s ≤ 253402300799) (h2 : 0 ≤ s') (h3 : s' ≤ 253402300799) (e : s' = s + 86400 * k) (hk : x.b5 = true ∨ k % 7 = 0) : (wk x).Lm s ↔ (wk x).Lm s' := by
  rw [lm_iff, lm_iff, on_wk (by omega) (by omega), on_wk (by omega) (by omega)]
  have e1 : s' % 86400 = s % 86400 := by omega
  have e2 : s' / 86400 = s / 86400 + k := by omega
  rw [e1]
  rcases hk with hk | hk
  · simp [hk]
  · have e3 : (s' / 86400 + 4) % 7 = (s / 86400 + 4) % 7 := by omega
    rw [e3]
set_option maxRecDepth 100000 in
set_option maxHeartbeats 4000000 in
theorem walk_skip (x : Exp.Ex) (z t : Int) (w : World) (L : LayM w) (h : t < 0 ∨ 0 ≤ t ∧ 253401436799 < t) :
    Calls Tryd.prog 11 #[.agg #[.int .u64 x.a0, .int .u64 x.a1, .int .u64 x.a2, .int .u64 x.a3, .int .u64 x.a4, .int .u64 x.a5, .bool x.b3, .bool x.b5], .int .i64 z, .int .i64 t] w fun e w' => e = .returned (.bool true) ∧ Below w.heap.size w w' := by
  have Q := Lib.hid ((MC.start L).box (wk x))
  rcases h with h | ⟨h1, h2⟩
  · have t1 : decide (t < 0) = true := by rw [decide_eq_true_iff]; omega
    clear h L
    go_enter Tryd.func11, Tryd.ntmps11
    go_wp2_with fail
    refine (MC.works Q.out).mono ?_
    rintro e' wc1 ⟨rfl, q⟩
    have Q := Lib.hid q
    clear q
    go_wp2_with fail
    go_ret
    exact ⟨rfl, Q.out.below⟩
  · have t1 : decide (t < 0) = false := by rw [decide_eq_false_iff_not]; omega
    have t2 : decide (253401436799 < t) = true := by rw [decide_eq_true_iff]; omega
    clear h1 h2 L
    go_enter Tryd.func11, Tryd.ntmps11
    go_wp2_with fail
    refine (MC.works Q.out).mono ?_
    rintro e' wc2 ⟨rfl, q⟩
    have Q := Lib.hid q
    clear q
    go_wp2_with fail
    go_ret
    exact ⟨rfl, Q.out.below⟩
set_option maxRecDepth 100000 in
set_option maxHeartbeats 4000000 in
theorem walk_err (x : Exp.Ex) (z t e : Int) (w : World) (L : LayM w) (hx : x.Bd) (h0 : 0 ≤ t) (h1 : t ≤ 253401436799) (he : errC (wk x) z [t] = e) (he7 : errC (wk x) z [t + 604800] = e) (hne : e ≠ 0) :
    Calls Tryd.prog 11 #[.agg #[.int .u64 x.a0, .int .u64 x.a1, .int .u64 x.a2, .int .u64 x.a3, .int .u64 x.a4, .int .u64 x.a5, .bool x.b3, .bool x.b5], .int .i64 z, .int .i64 t] w fun e w' => e = .returned (.bool true) ∧ Below w.heap.size w w' := by
  have t1 : decide (t < 0) = false := by rw [decide_eq_false_iff_not]; omega
  have t2 : decide (253401436799 < t) = false := by rw [decide_eq_false_iff_not]; omega
  have t3 : (e != 0) = true := by simpa using hne
  have w7 : IntKind.i64.wrap (t + 604800) = t + 604800 := by rw [IntKind.wrap_i64]; omega
  have Q := Lib.hid ((MC.start L).box (wk x))
  have IS := Lib.hid (fun l W (h : MC w l W) => h.is (wk x) (wk_bd hx) z t false e (isO_no (by rw [he]; exact hne)) he)
  have I7 := Lib.hid (fun l W (h : MC w l W) => h.is (wk x) (wk_bd hx) z (t + 604800) false e (isO_no (by rw [he7]; exact hne)) he7)
  clear hx he he7 hne h0 h1 L
  go_enter Tryd.func11, Tryd.ntmps11
  go_wp2_with fail
  refine (IS.out _ _ Q.out).mono ?_
  rintro e' wc3 ⟨rfl, q⟩
  obtain ⟨B, hB⟩ : ∃ B, w.heap.size = B := ⟨_, rfl⟩
  rw [hB] at q
  obtain ⟨c0, c1, c2, c3, c4, c5, c6, c7⟩ := q.cells B (wk x) (by simp)
  have Q := Lib.hid q
  clear q
  go_wp2_with fail
  refine (I7.out _ _ Q.out).mono ?_
  rintro e' wc4 ⟨rfl, q⟩
  obtain ⟨c0, c1, c2, c3, c4, c5, c6, c7⟩ := q.cells B (wk x) (by simp)
  have Q := Lib.hid q
  clear q
  go_wp2_with fail
  refine (MC.works Q.out).mono ?_
  rintro e' wc5 ⟨rfl, q⟩
  have Q := Lib.hid q
  clear q
  go_wp2_with fail
  go_ret
  exact ⟨rfl, Q.out.below⟩
/-- what is asked of the four answers: a week later, a day later -/
def Asked (p q p' q1 a b c d : Bool) : Prop := (p = false ∧ p' = true) ∨ (p = true ∧ q = false ∧ p' = false ∧ q1 = true) ∨ (p = true ∧ q = false ∧ p' = false ∧ q1 = false ∧ c = d) ∨ (p = true ∧ q = true ∧ a = b ∧ p' = false ∧ q1 = false ∧ c = d)
set_option maxRecDepth 100000 in
set_option maxHeartbeats 4000000 in
theorem walk_good (x : Exp.Ex) (z t s s7 s1 : Int) (a b c d p q p' q1 : Bool) (w : World) (L : LayM w) (hx : x.Bd) (h0 : 0 ≤ t) (h1 : t ≤ 253401436799) (he : errC (wk x) z [t] = 0) (he7 : errC (wk x) z [t + 604800] = 0) (hf : errC (al x) z [t] = 0) (hf1 : errC (al x) z [t + 86400] = 0)
    (ha : isO (wk x) z t = a) (hb : isO (wk x) z (t + 604800) = b) (hc : isO (al x) z t = c) (hd : isO (al x) z (t + 86400) = d)
    (w60 : IntKind.i64.wrap (z * 60) = z * 60) (ws : IntKind.i64.wrap (t + z * 60) = s) (ws7 : IntKind.i64.wrap (t + 604800 + z * 60) = s7) (ws1 : IntKind.i64.wrap (t + 86400 + z * 60) = s1)
    (hp : decide (0 ≤ s) = p) (hq : decide (s7 ≤ 253402300799) = q) (hp' : decide (s < 0) = p') (hq1 : decide (253402300799 < s1) = q1) (K : Asked p q p' q1 a b c d) :
    Calls Tryd.prog 11 #[.agg #[.int .u64 x.a0, .int .u64 x.a1, .int .u64 x.a2, .int .u64 x.a3, .int .u64 x.a4, .int .u64 x.a5, .bool x.b3, .bool x.b5], .int .i64 z, .int .i64 t] w fun e w' => e = .returned (.bool true) ∧ Below w.heap.size w w' := by
  have t1 : decide (t < 0) = false := by rw [decide_eq_false_iff_not]; omega
  have t2 : decide (253401436799 < t) = false := by rw [decide_eq_false_iff_not]; omega
  have w7 : IntKind.i64.wrap (t + 604800) = t + 604800 := by rw [IntKind.wrap_i64]; omega
  have w1 : IntKind.i64.wrap (t + 86400) = t + 86400 := by rw [IntKind.wrap_i64]; omega
  have Q := Lib.hid ((MC.start L).box (wk x))
  have IS := Lib.hid (fun l W (h : MC w l W) => h.is (wk x) (wk_bd hx) z t a 0 ha he)
  have I7 := Lib.hid (fun l W (h : MC w l W) => h.is (wk x) (wk_bd hx) z (t + 604800) b 0 hb he7)
  have JS := Lib.hid (fun l W (h : MC w l W) => h.is (al x) (al_bd hx) z t c 0 hc hf)
  have J1 := Lib.hid (fun l W (h : MC w l W) => h.is (al x) (al_bd hx) z (t + 86400) d 0 hd hf1)
  have LL := Lib.hid L
  clear hx he he7 hf hf1 ha hb hc hd h0 h1 L
  rcases K with ⟨rfl, rfl⟩ | ⟨rfl, rfl, rfl, rfl⟩ | ⟨rfl, rfl, rfl, rfl, rfl⟩ | ⟨rfl, rfl, rfl, rfl, rfl, rfl⟩
  all_goals
    go_enter Tryd.func11, Tryd.ntmps11
    go_wp2_with fail
    refine (IS.out _ _ Q.out).mono ?_
    rintro e' wc6 ⟨rfl, q⟩
    obtain ⟨B, hB⟩ : ∃ B, w.heap.size = B := ⟨_, rfl⟩
    rw [hB] at q
    obtain ⟨c0, c1, c2, c3, c4, c5, c6, c7⟩ := q.cells B (wk x) (by simp)
    have Q := Lib.hid q
    clear q
    go_wp2_with fail
    refine (I7.out _ _ Q.out).mono ?_
    rintro e' wc7 ⟨rfl, q⟩
    obtain ⟨c0, c1, c2, c3, c4, c5, c6, c7⟩ := q.cells B (wk x) (by simp)
    have fr := fun k => (q.rows (B, wk x) (by simp)).free k
    have Q := Lib.hid q
    clear q
    go_wp2_with fail
    have Q := Lib.hid (Q.out.put LL.out (by omega) (al x) 5 7 (.int .u64 127) (.bool true) rfl)
    obtain ⟨c0, c1, c2, c3, c4, c5, c6, c7⟩ := Q.out.cells B (al x) (by simp)
    refine (JS.out _ _ Q.out).mono ?_
    rintro e' wc8 ⟨rfl, q⟩
    obtain ⟨c0, c1, c2, c3, c4, c5, c6, c7⟩ := q.cells B (al x) (by simp)
    have Q := Lib.hid q
    clear q
    go_wp2_with fail
    refine (J1.out _ _ Q.out).mono ?_
    rintro e' wc9 ⟨rfl, q⟩
    obtain ⟨c0, c1, c2, c3, c4, c5, c6, c7⟩ := q.cells B (al x) (by simp)
    have Q := Lib.hid q
    clear q
    go_wp2_with fail
    refine (MC.works Q.out).mono ?_
    rintro e' wc10 ⟨rfl, q⟩
    have Q := Lib.hid q
    clear q
    go_wp2_with fail
    go_ret
    exact ⟨rfl, Q.out.below⟩
theorem walk (x : Exp.Ex) (z t : Int) (w : World) (L : LayM w) (hx : x.Bd) (_ : (Lit.int .i64 z).wf = true) (_ : (Lit.int .i64 t).wf = true) :
    Calls Tryd.prog 11 #[.agg #[.int .u64 x.a0, .int .u64 x.a1, .int .u64 x.a2, .int .u64 x.a3, .int .u64 x.a4, .int .u64 x.a5, .bool x.b3, .bool x.b5], .int .i64 z, .int .i64 t] w fun e w' => e = .returned (.bool true) ∧ Below w.heap.size w w' := by
  by_cases g0 : t < 0
  · exact walk_skip x z t w L (.inl g0)
  by_cases g1 : 253401436799 < t
  · exact walk_skip x z t w L (.inr ⟨by omega, g1⟩)
  by_cases h : errC (wk x) z [t] = 0
  · obtain ⟨hk, hz, ht⟩ := errC_one h
    have hal : (al x).okB = true := Exp.okB_iff.2 (al_ok (Exp.okB_iff.1 hk))
    have one : ∀ (y : Exp.Ex), y.okB = true → ∀ s, 0 ≤ s → s ≤ 253402300799 → errC y z [s] = 0 := fun y hy s a b => errC_mk hy hz (fun r hr => by
      have : r = s := by simpa using hr
      omega)
    have e7 := one (wk x) hk (t + 604800) (by omega) (by omega)
    have f0 := one (al x) hal t (by omega) (by omega)
    have f1 := one (al x) hal (t + 86400) (by omega) (by omega)
    refine walk_good x z t (t + 60 * z) (t + 604800 + 60 * z) (t + 86400 + 60 * z) _ _ _ _ _ _ _ _ w L hx (by omega) (by omega) h e7 f0 f1 rfl rfl rfl rfl
      (by rw [IntKind.wrap_i64]; omega) (by rw [IntKind.wrap_i64]; omega) (by rw [IntKind.wrap_i64]; omega) (by rw [IntKind.wrap_i64]; omega) rfl rfl rfl rfl ?_
    have same : ∀ (y : Exp.Ex) (u v : Int), errC y z [u] = 0 → errC y z [v] = 0 → (y.Lm (u + 60 * z) ↔ y.Lm (v + 60 * z)) → isO y z u = isO y z v := fun y u v a b k => by
      have k' := (isO_iff a).trans (k.trans (isO_iff b).symm)
      exact Bool.eq_iff_iff.2 k'
    unfold Asked
    by_cases q0 : 0 ≤ t + 60 * z
    · by_cases q7 : t + 604800 + 60 * z ≤ 253402300799
      · refine .inr (.inr (.inr ⟨decide_eq_true q0, decide_eq_true q7, ?_, by rw [decide_eq_false_iff_not]; omega, by rw [decide_eq_false_iff_not]; omega, ?_⟩))
        · exact same _ _ _ h e7 (lm_wk (x := x) 7 (by omega) (by omega) (by omega) (by omega) (by omega) (.inr (by decide)))
        · exact same _ _ _ f0 f1 (lm_wk (x := al x) 1 (by omega) (by omega) (by omega) (by omega) (by omega) (.inl rfl))
      · by_cases q1 : 253402300799 < t + 86400 + 60 * z
        · exact .inr (.inl ⟨decide_eq_true q0, by rw [decide_eq_false_iff_not]; omega, by rw [decide_eq_false_iff_not]; omega, decide_eq_true q1⟩)
        · refine .inr (.inr (.inl ⟨decide_eq_true q0, by rw [decide_eq_false_iff_not]; omega, by rw [decide_eq_false_iff_not]; omega, by rw [decide_eq_false_iff_not]; omega, ?_⟩))
          exact same _ _ _ f0 f1 (lm_wk (x := al x) 1 (by omega) (by omega) (by omega) (by omega) (by omega) (.inl rfl))
    · exact .inl ⟨by rw [decide_eq_false_iff_not]; omega, by rw [decide_eq_true_iff]; omega⟩
  · refine walk_err x z t _ w L hx (by omega) (by omega) rfl ?_ h
    have i0 : inT t = true := inT_iff.2 ⟨by omega, by omega⟩
    have i7 : inT (t + 604800) = true := inT_iff.2 ⟨by omega, by omega⟩
    unfold errC
    simp [i0, i7]

set_option maxRecDepth 100000 in
theorem lifted (os : Os) (started : os.Started) (H : Type) (enc : TypeId × Value → H) :
    ReturnsInHanded {} Tryd.checked os 11 .any (fun w args => (Rows.matchWeeksSpec.pre enc Tryd.prog Tryd.f11 [] false w args ∧ laidMetH Tryd.prog Rows.matchWeeksRow.laid w) ∧ sizedMet enc Tryd.prog Tryd.f11 (OpenSpec.ofChange Rows.matchWeeksSpec) false w args)
      (Rows.matchWeeksSpec.post enc Tryd.prog Tryd.f11 false true false false) := by
  refine returnsInHanded_of_change_and (C := Tryd.checked) (X := fun w _ => laidMetH Tryd.prog Rows.matchWeeksRow.laid w) (fun _ _ _ hh h => h.of_heap hh) own started (by kernel_rfl) Tryd.func11
    (ChangeSpec.witness_shaped (enc := enc) (C := Tryd.checked) (os := os) (X := fun w _ => laidMetH Tryd.prog Rows.matchWeeksRow.laid w) false (World.laidAll Tryd.prog os Rows.matchWeeksRow.laid) #[.agg #[.int .u64 0, .int .u64 0, .int .u64 0, .int .u64 0, .int .u64 0, .int .u64 0, .bool false, .bool false], .int .i64 0, .int .i64 0] 8 (World.laidAll_os _ _ _) (World.shaped_of_ZipB (by kernel_rfl) (by kernel_rfl)) (by kernel_rfl) (by kernel_rfl) (by kernel_rfl) (by rw [MakeChecks.laidMetH_plain _ _ _ (by kernel_rfl)]; exact laidMet_laidAll _ (by kernel_rfl) (by kernel_rfl))) ?_
  intro W base args ds gs before hval0 hW _ _ hL _
  have hval : ∀ (j : Nat) t v, Tryd.f11.params[j]? = some t → args[j]? = some v → Value.okWide Tryd.prog W .any base t v := hval0
  have hW' := hW
  obtain ⟨p, q, hA0, hV, rfl, hfz, hnd⟩ := hW
  have hA : DataW.TrodAll enc Tryd.prog W 0 (fun _ => true) true Tryd.f11.params.toList args.toList ds p := hA0
  rw [Tryd.params11] at hA hval
  obtain ⟨v0, vs0, d0, ds0, p0, q0, hargs, rfl, rfl, h0, r0⟩ := trodAll_cons hA
  obtain ⟨v1, vs1, d1, ds1, p1, q1, rfl, rfl, rfl, h1, r1⟩ := trodAll_cons r0
  obtain ⟨v2, vs2, d2, ds2, p2, q2, rfl, rfl, rfl, h2, r2⟩ := trodAll_cons r1
  obtain ⟨rfl, rfl, rfl⟩ := trodAll_nil r2
  obtain rfl : args = #[v0, v1, v2] := by cases args; simp_all
  obtain ⟨rfl, rfl⟩ := trodVars_none hV
  obtain ⟨x0, rfl, w0⟩ := open_expr (hval 0 24 v0 rfl rfl) h0
  have k0 := h0
  have lt0 : ∀ x ∈ p0, x.block < W.heap.size := by obtain ⟨m, hm⟩ := k0; exact DataW.trod_lt m _ _ _ hm
  obtain ⟨a1, rfl, rfl, rfl, w1⟩ := open_int Tryd.underlying3 (hval 1 3 v1 rfl rfl) h1
  obtain ⟨a2, rfl, rfl, rfl, w2⟩ := open_int Tryd.underlying2 (hval 2 2 v2 rfl rfl) h2
  clear hA0 hval0
  refine (walk x0 a1 a2 W (layM_of _ W (by kernel_rfl) (.head _) (.tail _ (.head _)) (by kernel_rfl) (by kernel_rfl) hL) w0 w1 w2).mono fun e W' ⟨he, bel⟩ => ?_
  subst he
  exact ⟨_, rfl, _, _, _, [], _, [], hW', trodAll_mk1 (shut_bool Tryd.underlying4 _), (trodAll_cons_mk (Below.trod laidOut (by kernel_rfl) (of_decide_eq_true (by kernel_rfl)) k0 bel lt0) (trodAll_cons_mk (shut_int Tryd.underlying3 w1) (trodAll_cons_mk (shut_int Tryd.underlying2 w2) trodAll_mk0))), rfl, bel.frame _, fun h => by cases h⟩

theorem row_holds : Rows.MatchWeeksSaid :=
  OpenClaim.holds_of_wide 11 Tryd.f11 rfl rfl rfl rfl rfl rfl rfl ⟨rfl, rfl, rfl, rfl, rfl⟩ rfl rfl rfl rfl rfl (by kernel_rfl) Tryd.func11 (by kernel_rfl)
    (of_decide_eq_true (by kernel_rfl)) (by unfold Func.isWrapper; first | (rw [if_pos (by decide +kernel)]; kernel_rfl) | (rw [if_neg (by decide +kernel)]; exact ⟨rfl, rfl⟩))
    (fun os started H enc _ => lifted os started H enc)

theorem proved : Rows.MatchWeeksCardSaid :=
  Claim7.holds_tied_plain_at .later [] Rows.matchWeeksCard.laidKinds true Rows.matchWeeksCard.stood.harness Rows.matchWeeksCard.stood.looks
    row_holds (fun _ h => by cases h) (by kernel_rfl) (fun _ h => by cases h) matchWeeks_row_tie rfl ⟨rfl, rfl⟩ (by kernel_rfl) rfl
    (fun f fn hf hfn => by
      obtain rfl : f = 11 := Option.some.inj ((show Tryd.prog.funcNamed Rows.matchWeeksRow.func = some 11 by kernel_rfl).symm.trans hf) |>.symm
      obtain rfl : fn = Tryd.f11 := (Option.some.inj (Tryd.func11.symm.trans hfn)).symm
      exact ⟨looks0, fun j t ht => by
        rw [Tryd.params11] at ht
        have hm : t ∈ [24, 3, 2] := by simpa using Array.mem_of_getElem? ht
        have hall : ([24, 3, 2].all fun u => !Tryd.prog.wantsStandIn u) = true := by kernel_rfl
        exact (show Tryd.prog.wantsStandIn t = false by simpa using List.all_eq_true.1 hall t hm)⟩)
    (by kernel_rfl)

end Go.Proofs.YtbehendogcghjaaDoor.matchWeeks
