/- For every plan, times and number, PlanLists returns true: the times of a span, and their number, are as the document says. Condition: the program's tables start as its text lays them (tied). -/
import Derived.Test.YtljackjcgfaanaaGreatDoorPlaArg
import Derived.Test.YtljackjcgfaanaaGreatDoorPlaZ
namespace Go.Proofs.YtljackjcgfaanaaGreatDoor.planLists
open Go.ChangeShapes Go.WideShapes Go.ChangeAt Go.RowKit Go.ChangeMaps

set_option maxRecDepth 100000 in
set_option maxHeartbeats 4000000 in
theorem walk (q : Pl.P) (a0 : Option Addr) (cap : Nat) (a b mo : Int) (w : World) (L : LayM w) (hx : q.x.Bd) (_ : PWf q) (hI : Bo.InS w (.slice a0 q.l.length cap) q.l) (_ : (Lit.int .i64 a).wf = true) (_ : (Lit.int .i64 b).wf = true) (_ : (Lit.int .i64 mo).wf = true) :
    Calls Tryz.prog 4 #[.agg #[.int .i64 q.k, .int .u64 q.x.a0, .int .u64 q.x.a1, .int .u64 q.x.a2, .int .u64 q.x.a3, .int .u64 q.x.a4, .int .u64 q.x.a5, .bool q.x.b3, .bool q.x.b5, .int .i64 q.z, .int .i64 q.s, .int .i64 q.p, .int .i64 q.c, (.slice a0 q.l.length cap)], .int .i64 a, .int .i64 b, .int .i64 mo] w fun e w' => e = .returned (.bool true) ∧ Below w.heap.size w w' := by
  have RX := Lib.hid (show RC w w.heap.size (plL q (.slice a0 q.l.length cap)) (w.alloc (.cells #[.int .i64 q.k, .int .u64 q.x.a0, .int .u64 q.x.a1, .int .u64 q.x.a2, .int .u64 q.x.a3, .int .u64 q.x.a4, .int .u64 q.x.a5, .bool q.x.b3, .bool q.x.b5, .int .i64 q.z, .int .i64 q.s, .int .i64 q.p, .int .i64 q.c, (.slice a0 q.l.length cap)] 29)) from ⟨(Below.refl _ _).alloc (Nat.le_refl _) _, L.alloc _, Row.new w _ _⟩)
  by_cases big : 200 < q.l.length
  · have t0 : decide ((200 : Int) < (q.l.length : Int)) = true := by rw [decide_eq_true_iff]; omega
    clear hI big L hx
    go_enter Tryz.func4, Tryz.ntmps4
    go_wp2_with fail
    refine (works_any _ RX.out.lay).mono ?_
    rintro e w1 ⟨rfl, hb1⟩
    have RY := Lib.hid (RX.out.next hb1)
    clear hb1
    go_wp2_with fail
    go_ret
    exact ⟨rfl, RY.out.below⟩
  have t0 : decide ((200 : Int) < (q.l.length : Int)) = false := by rw [decide_eq_false_iff_not]; omega
  have Q := Lib.hid (PB.start (q := q) L (hI.2.2 (by omega)))
  clear hI L RX big
  obtain ⟨l, r, hl⟩ := Pl.listR_ex q a b (min mo 20)
  obtain ⟨c, rc, hc⟩ := Pl.countR_ex q a b
  have ll : l.length ≤ 1000000 := by
    rcases hl.2 with ⟨_, e⟩ | ⟨_, e⟩
    · rw [e]; simp
    · have := tms_len e; omega
  have L1 := Lib.hid (fun W (h : PB w w.heap.size q (.slice a0 q.l.length cap) W) => h.list hx a b (min mo 20) l r hl)
  have L2 := Lib.hid (fun W (h : PB w w.heap.size q (.slice a0 q.l.length cap) W) => rplist_any q hx (.slice a0 q.l.length cap) a b (min mo 20) l r hl W h.lay h.sp)
  have C1 := Lib.hid (fun W (h : PB w w.heap.size q (.slice a0 q.l.length cap) W) => h.count hx a b c rc hc)
  have C2 := Lib.hid (fun W (h : PB w w.heap.size q (.slice a0 q.l.length cap) W) => rpcount_any q hx (.slice a0 q.l.length cap) a b c rc hc W h.lay h.sp)
  have SA := Lib.hid (fun v1 v2 W h1 h2 => same_any v1 v2 l l true (by simp) ll W h1 h2)
  have rr : (r != r) = false := by simp
  clear hl hc hx ll
  obtain ⟨c0, c1, c2, c3, c4, c5, c6, c7, c8, c9, c10, c11, c12, c13⟩ := Q.out.cells
  go_enter Tryz.func4, Tryz.ntmps4
  go_wp2_with fail
  refine (L1.out _ Q.out).mono ?_
  rintro e w1 ⟨A1, k1, rfl, rt, h, _⟩
  have Q1 := Lib.hid h
  have T1 := Lib.hid rt
  clear h rt c0 c1 c2 c3 c4 c5 c6 c7 c8 c9 c10 c11 c12 c13
  obtain ⟨c0, c1, c2, c3, c4, c5, c6, c7, c8, c9, c10, c11, c12, c13⟩ := Q1.out.cells
  go_wp2_with fail
  refine (L2.out _ Q1.out).mono ?_
  rintro e w2 ⟨u, rfl, hu⟩
  have Q2 := Lib.hid (Q1.out.next hu.below)
  have T2 := Lib.hid hu.rowT
  have T1' := Lib.hid (T1.out.below hu.below)
  obtain ⟨A2, k2, rfl⟩ := hu.len
  clear hu c0 c1 c2 c3 c4 c5 c6 c7 c8 c9 c10 c11 c12 c13
  go_wp2_with fail
  refine (SA.out _ _ _ T1'.out T2.out).mono ?_
  rintro e w3 ⟨rfl, hb3⟩
  have Q3 := Lib.hid (Q2.out.next hb3)
  clear hb3
  obtain ⟨c0, c1, c2, c3, c4, c5, c6, c7, c8, c9, c10, c11, c12, c13⟩ := Q3.out.cells
  by_cases y0 : 0 ≤ a
  case neg =>
    have d0 : decide (0 ≤ a) = false := decide_eq_false y0
    clear y0
    go_wp2_with fail
    refine (C1.out _ Q3.out).mono ?_
    rintro e w4 ⟨rfl, h⟩
    have Q4 := Lib.hid h
    clear h c0 c1 c2 c3 c4 c5 c6 c7 c8 c9 c10 c11 c12 c13
    obtain ⟨c0, c1, c2, c3, c4, c5, c6, c7, c8, c9, c10, c11, c12, c13⟩ := Q4.out.cells
    go_wp2_with fail
    refine (C2.out _ Q4.out).mono ?_
    rintro e w5 ⟨rfl, hb5⟩
    have Q5 := Lib.hid (Q4.out.next hb5)
    clear hb5
    go_wp2_with fail
    refine (Q5.out.works).mono ?_
    rintro e w6 ⟨rfl, h⟩
    have Q6 := Lib.hid h
    clear h
    go_wp2_with fail
    go_ret
    exact ⟨rfl, Q6.out.below⟩
  have d0 : decide (0 ≤ a) = true := decide_eq_true y0
  by_cases y1 : a ≤ 253402300799
  case neg =>
    have d1 : decide (a ≤ 253402300799) = false := decide_eq_false y1
    clear y1
    go_wp2_with fail
    refine (C1.out _ Q3.out).mono ?_
    rintro e w4 ⟨rfl, h⟩
    have Q4 := Lib.hid h
    clear h c0 c1 c2 c3 c4 c5 c6 c7 c8 c9 c10 c11 c12 c13
    obtain ⟨c0, c1, c2, c3, c4, c5, c6, c7, c8, c9, c10, c11, c12, c13⟩ := Q4.out.cells
    go_wp2_with fail
    refine (C2.out _ Q4.out).mono ?_
    rintro e w5 ⟨rfl, hb5⟩
    have Q5 := Lib.hid (Q4.out.next hb5)
    clear hb5
    go_wp2_with fail
    refine (Q5.out.works).mono ?_
    rintro e w6 ⟨rfl, h⟩
    have Q6 := Lib.hid h
    clear h
    go_wp2_with fail
    go_ret
    exact ⟨rfl, Q6.out.below⟩
  have d1 : decide (a ≤ 253402300799) = true := decide_eq_true y1
  by_cases y2 : 0 ≤ b
  case neg =>
    have d2 : decide (0 ≤ b) = false := decide_eq_false y2
    clear y2
    go_wp2_with fail
    refine (C1.out _ Q3.out).mono ?_
    rintro e w4 ⟨rfl, h⟩
    have Q4 := Lib.hid h
    clear h c0 c1 c2 c3 c4 c5 c6 c7 c8 c9 c10 c11 c12 c13
    obtain ⟨c0, c1, c2, c3, c4, c5, c6, c7, c8, c9, c10, c11, c12, c13⟩ := Q4.out.cells
    go_wp2_with fail
    refine (C2.out _ Q4.out).mono ?_
    rintro e w5 ⟨rfl, hb5⟩
    have Q5 := Lib.hid (Q4.out.next hb5)
    clear hb5
    go_wp2_with fail
    refine (Q5.out.works).mono ?_
    rintro e w6 ⟨rfl, h⟩
    have Q6 := Lib.hid h
    clear h
    go_wp2_with fail
    go_ret
    exact ⟨rfl, Q6.out.below⟩
  have d2 : decide (0 ≤ b) = true := decide_eq_true y2
  by_cases y3 : b ≤ 253402300799
  case neg =>
    have d3 : decide (b ≤ 253402300799) = false := decide_eq_false y3
    clear y3
    go_wp2_with fail
    refine (C1.out _ Q3.out).mono ?_
    rintro e w4 ⟨rfl, h⟩
    have Q4 := Lib.hid h
    clear h c0 c1 c2 c3 c4 c5 c6 c7 c8 c9 c10 c11 c12 c13
    obtain ⟨c0, c1, c2, c3, c4, c5, c6, c7, c8, c9, c10, c11, c12, c13⟩ := Q4.out.cells
    go_wp2_with fail
    refine (C2.out _ Q4.out).mono ?_
    rintro e w5 ⟨rfl, hb5⟩
    have Q5 := Lib.hid (Q4.out.next hb5)
    clear hb5
    go_wp2_with fail
    refine (Q5.out.works).mono ?_
    rintro e w6 ⟨rfl, h⟩
    have Q6 := Lib.hid h
    clear h
    go_wp2_with fail
    go_ret
    exact ⟨rfl, Q6.out.below⟩
  have d3 : decide (b ≤ 253402300799) = true := decide_eq_true y3
  have wd : IntKind.i64.wrap (b - a) = b - a := by rw [IntKind.wrap_i64]; omega
  by_cases far : 34560000 < b - a
  · have d5 : decide (34560000 < b - a) = true := decide_eq_true far
    clear far
    go_wp2_with fail
    refine (Q3.out.works).mono ?_
    rintro e w6 ⟨rfl, h⟩
    have Q6 := Lib.hid h
    clear h
    go_wp2_with fail
    go_ret
    exact ⟨rfl, Q6.out.below⟩
  · have d5 : decide (34560000 < b - a) = false := decide_eq_false far
    clear far
    go_wp2_with fail
    refine (C1.out _ Q3.out).mono ?_
    rintro e w4 ⟨rfl, h⟩
    have Q4 := Lib.hid h
    clear h c0 c1 c2 c3 c4 c5 c6 c7 c8 c9 c10 c11 c12 c13
    obtain ⟨c0, c1, c2, c3, c4, c5, c6, c7, c8, c9, c10, c11, c12, c13⟩ := Q4.out.cells
    go_wp2_with fail
    refine (C2.out _ Q4.out).mono ?_
    rintro e w5 ⟨rfl, hb5⟩
    have Q5 := Lib.hid (Q4.out.next hb5)
    clear hb5
    go_wp2_with fail
    refine (Q5.out.works).mono ?_
    rintro e w6 ⟨rfl, h⟩
    have Q6 := Lib.hid h
    clear h
    go_wp2_with fail
    go_ret
    exact ⟨rfl, Q6.out.below⟩

set_option maxRecDepth 100000 in
theorem lifted (os : Os) (started : os.Started) (H : Type) (enc : TypeId × Value → H) :
    ReturnsInHanded {} Tryz.checked os 4 .any (fun w args => (Rows.planListsSpec.pre enc Tryz.prog Tryz.f4 [] false w args ∧ laidMetH Tryz.prog Rows.planListsRow.laid w) ∧ sizedMet enc Tryz.prog Tryz.f4 (OpenSpec.ofChange Rows.planListsSpec) false w args)
      (Rows.planListsSpec.post enc Tryz.prog Tryz.f4 false true false false) := by
  refine returnsInHanded_of_change_and (C := Tryz.checked) (X := fun w _ => laidMetH Tryz.prog Rows.planListsRow.laid w) (fun _ _ _ hh h => h.of_heap hh) own started (by kernel_rfl) Tryz.func4
    (ChangeSpec.witness_shaped (enc := enc) (C := Tryz.checked) (os := os) (X := fun w _ => laidMetH Tryz.prog Rows.planListsRow.laid w) false (World.laidAll Tryz.prog os Rows.planListsRow.laid) #[.agg #[.int .i64 0, .int .u64 0, .int .u64 0, .int .u64 0, .int .u64 0, .int .u64 0, .int .u64 0, .bool false, .bool false, .int .i64 0, .int .i64 0, .int .i64 0, .int .i64 0, .slice none 0 0], .int .i64 0, .int .i64 0, .int .i64 0] 8 (World.laidAll_os _ _ _) (World.shaped_of_ZipB (by kernel_rfl) (by kernel_rfl)) (by kernel_rfl) (by kernel_rfl) (by kernel_rfl) (by rw [MakeChecks.laidMetH_plain _ _ _ (by kernel_rfl)]; exact laidMet_laidAll _ (by kernel_rfl) (by kernel_rfl))) ?_
  intro W base args ds gs before hval0 hW _ _ hL _
  have hval : ∀ (j : Nat) t v, Tryz.f4.params[j]? = some t → args[j]? = some v → Value.okWide Tryz.prog W .any base t v := hval0
  have hW' := hW
  obtain ⟨p, q, hA0, hV, rfl, hfz, hnd⟩ := hW
  have hA : DataW.TrodAll enc Tryz.prog W 0 (fun _ => true) true Tryz.f4.params.toList args.toList ds p := hA0
  rw [Tryz.params4] at hA hval
  obtain ⟨v0, vs0, d0, ds0, p0, q0, hargs, rfl, rfl, h0, r0⟩ := trodAll_cons hA
  obtain ⟨v1, vs1, d1, ds1, p1, q1, rfl, rfl, rfl, h1, r1⟩ := trodAll_cons r0
  obtain ⟨v2, vs2, d2, ds2, p2, q2, rfl, rfl, rfl, h2, r2⟩ := trodAll_cons r1
  obtain ⟨v3, vs3, d3, ds3, p3, q3, rfl, rfl, rfl, h3, r3⟩ := trodAll_cons r2
  obtain ⟨rfl, rfl, rfl⟩ := trodAll_nil r3
  obtain rfl : args = #[v0, v1, v2, v3] := by cases args; simp_all
  obtain ⟨rfl, rfl⟩ := trodVars_none hV
  obtain ⟨pl0, a0, cap0, rfl, b0, w0, i0⟩ := open_plan (hval 0 29 v0 rfl rfl) h0
  have k0 := h0
  have lt0 : ∀ x ∈ p0, x.block < W.heap.size := by obtain ⟨m, hm⟩ := k0; exact DataW.trod_lt m _ _ _ hm
  obtain ⟨a1, rfl, rfl, rfl, w1⟩ := open_int Tryz.underlying2 (hval 1 2 v1 rfl rfl) h1
  obtain ⟨a2, rfl, rfl, rfl, w2⟩ := open_int Tryz.underlying2 (hval 2 2 v2 rfl rfl) h2
  obtain ⟨a3, rfl, rfl, rfl, w3⟩ := open_int Tryz.underlying3 (hval 3 3 v3 rfl rfl) h3
  clear hA0 hval0
  refine (walk pl0 a0 cap0 a1 a2 a3 W (layM_of _ W (by kernel_rfl) (.head _) (.tail _ (.head _)) (by kernel_rfl) (by kernel_rfl) hL) b0 w0 i0 w1 w2 w3).mono fun e W' ⟨he, bel⟩ => ?_
  subst he
  exact ⟨_, rfl, _, _, _, [], _, [], hW', trodAll_mk1 (shut_bool Tryz.underlying4 _), (trodAll_cons_mk (Below.trod laidOut (by kernel_rfl) (of_decide_eq_true (by kernel_rfl)) k0 bel lt0) (trodAll_cons_mk (shut_int Tryz.underlying2 w1) (trodAll_cons_mk (shut_int Tryz.underlying2 w2) (trodAll_cons_mk (shut_int Tryz.underlying3 w3) trodAll_mk0)))), rfl, bel.frame _, fun h => by cases h⟩

theorem row_holds : Rows.PlanListsSaid :=
  OpenClaim.holds_of_wide 4 Tryz.f4 rfl rfl rfl rfl rfl rfl rfl ⟨rfl, rfl, rfl, rfl, rfl⟩ rfl rfl rfl rfl rfl (by kernel_rfl) Tryz.func4 (by kernel_rfl)
    (of_decide_eq_true (by kernel_rfl)) (by unfold Func.isWrapper; first | (rw [if_pos (by decide +kernel)]; kernel_rfl) | (rw [if_neg (by decide +kernel)]; exact ⟨rfl, rfl⟩))
    (fun os started H enc _ => lifted os started H enc)

theorem proved : Rows.PlanListsCardSaid :=
  Claim7.holds_tied_plain_at .later [] Rows.planListsCard.laidKinds true Rows.planListsCard.stood.harness Rows.planListsCard.stood.looks
    row_holds (fun _ h => by cases h) (by kernel_rfl) (fun _ h => by cases h) planLists_row_tie rfl ⟨rfl, rfl⟩ (by kernel_rfl) rfl
    (fun f fn hf hfn => by
      obtain rfl : f = 4 := Option.some.inj ((show Tryz.prog.funcNamed Rows.planListsRow.func = some 4 by kernel_rfl).symm.trans hf) |>.symm
      obtain rfl : fn = Tryz.f4 := (Option.some.inj (Tryz.func4.symm.trans hfn)).symm
      exact ⟨looks0, fun j t ht => by
        rw [Tryz.params4] at ht
        have hm : t ∈ [29, 2, 2, 3] := by simpa using Array.mem_of_getElem? ht
        have hall : ([29, 2, 2, 3].all fun u => !Tryz.prog.wantsStandIn u) = true := by kernel_rfl
        exact (show Tryz.prog.wantsStandIn t = false by simpa using List.all_eq_true.1 hall t hm)⟩)
    (by kernel_rfl)

end Go.Proofs.YtljackjcgfaanaaGreatDoor.planLists
