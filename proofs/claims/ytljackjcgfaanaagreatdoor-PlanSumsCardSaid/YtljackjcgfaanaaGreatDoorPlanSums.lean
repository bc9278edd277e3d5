/- For every plan, time and two numbers, PlanSums returns true: the numbers of two spans, one behind the other, add up; a list that is long enough has as many times. Condition: the program's tables start as its text lays them (tied). -/
import Derived.Test.YtljackjcgfaanaaGreatDoorPlaArg
namespace Go.Proofs.YtljackjcgfaanaaGreatDoor.planSums
open Go.ChangeShapes Go.WideShapes Go.ChangeAt Go.RowKit Go.ChangeMaps

set_option maxRecDepth 100000 in
set_option maxHeartbeats 4000000 in
theorem walk (q : Pl.P) (a0 : Option Addr) (cap : Nat) (a f s : Int) (w : World) (L : LayM w) (hx : q.x.Bd) (_ : PWf q) (hI : Bo.InS w (.slice a0 q.l.length cap) q.l) (wa : (Lit.int .i64 a).wf = true) (wf : (Lit.int .u32 f).wf = true) (ws : (Lit.int .u32 s).wf = true) :
    Calls Tryz.prog 9 #[.agg #[.int .i64 q.k, .int .u64 q.x.a0, .int .u64 q.x.a1, .int .u64 q.x.a2, .int .u64 q.x.a3, .int .u64 q.x.a4, .int .u64 q.x.a5, .bool q.x.b3, .bool q.x.b5, .int .i64 q.z, .int .i64 q.s, .int .i64 q.p, .int .i64 q.c, (.slice a0 q.l.length cap)], .int .i64 a, .int .u32 f, .int .u32 s] w fun e w' => e = .returned (.bool true) ∧ Below w.heap.size w w' := by
  have RX := Lib.hid (show RC w w.heap.size (plL q (.slice a0 q.l.length cap)) (w.alloc (.cells #[.int .i64 q.k, .int .u64 q.x.a0, .int .u64 q.x.a1, .int .u64 q.x.a2, .int .u64 q.x.a3, .int .u64 q.x.a4, .int .u64 q.x.a5, .bool q.x.b3, .bool q.x.b5, .int .i64 q.z, .int .i64 q.s, .int .i64 q.p, .int .i64 q.c, (.slice a0 q.l.length cap)] 29)) from ⟨(Below.refl _ _).alloc (Nat.le_refl _) _, L.alloc _, Row.new w _ _⟩)
  have ba := pbd64 wa
  have bf : 0 ≤ f ∧ f ≤ 4294967295 := by simpa [Lit.wf, show IntKind.u32.min = 0 from rfl, show IntKind.u32.max = 4294967295 from rfl] using wf
  have bs : 0 ≤ s ∧ s ≤ 4294967295 := by simpa [Lit.wf, show IntKind.u32.min = 0 from rfl, show IntKind.u32.max = 4294967295 from rfl] using ws
  by_cases big : 64 < q.l.length
  · have t0 : decide ((64 : Int) < (q.l.length : Int)) = true := by rw [decide_eq_true_iff]; omega
    clear hI big ba bf bs wa wf ws L hx
    go_enter Tryz.func9, Tryz.ntmps9
    go_wp2_with fail
    refine (works_any _ RX.out.lay).mono ?_
    rintro e w1 ⟨rfl, hb1⟩
    have RY := Lib.hid (RX.out.next hb1)
    clear hb1
    go_wp2_with fail
    go_ret
    exact ⟨rfl, RY.out.below⟩
  have t0 : decide ((64 : Int) < (q.l.length : Int)) = false := by rw [decide_eq_false_iff_not]; omega
  by_cases a1 : a < 0
  · have t1 : decide (a < 0) = true := decide_eq_true a1
    clear hI big ba bf bs wa wf ws L hx a1
    go_enter Tryz.func9, Tryz.ntmps9
    go_wp2_with fail
    refine (works_any _ RX.out.lay).mono ?_
    rintro e w1 ⟨rfl, hb1⟩
    have RY := Lib.hid (RX.out.next hb1)
    clear hb1
    go_wp2_with fail
    go_ret
    exact ⟨rfl, RY.out.below⟩
  have t1 : decide (a < 0) = false := decide_eq_false a1
  by_cases a2 : 253367740797 < a
  · have t2 : decide (253367740797 < a) = true := decide_eq_true a2
    clear hI big ba bf bs wa wf ws L hx a1 a2
    go_enter Tryz.func9, Tryz.ntmps9
    go_wp2_with fail
    refine (works_any _ RX.out.lay).mono ?_
    rintro e w1 ⟨rfl, hb1⟩
    have RY := Lib.hid (RX.out.next hb1)
    clear hb1
    go_wp2_with fail
    go_ret
    exact ⟨rfl, RY.out.below⟩
  have t2 : decide (253367740797 < a) = false := decide_eq_false a2
  obtain ⟨f1, e1⟩ : ∃ v, f.tmod 17280000 = v := ⟨_, rfl⟩
  obtain ⟨s1, e2⟩ : ∃ v, s.tmod 17280000 = v := ⟨_, rfl⟩
  have bf1 : 0 ≤ f1 ∧ f1 < 17280000 := by rw [← e1, Int.tmod_eq_emod_of_nonneg bf.1]; omega
  have bs1 : 0 ≤ s1 ∧ s1 < 17280000 := by rw [← e2, Int.tmod_eq_emod_of_nonneg bs.1]; omega
  have e3 : IntKind.i64.wrap f1 = f1 := by rw [IntKind.wrap_i64]; omega
  have e4 : IntKind.i64.wrap s1 = s1 := by rw [IntKind.wrap_i64]; omega
  obtain ⟨b, hb⟩ : ∃ b, a + f1 = b := ⟨_, rfl⟩
  obtain ⟨c, hc⟩ : ∃ c, b + 1 + s1 = c := ⟨_, rfl⟩
  have e5 : IntKind.i64.wrap (a + f1) = b := by rw [IntKind.wrap_i64]; omega
  have e6 : IntKind.i64.wrap (b + 1) = b + 1 := by rw [IntKind.wrap_i64]; omega
  have e7 : IntKind.i64.wrap (b + 1 + s1) = c := by rw [IntKind.wrap_i64]; omega
  have va : Pl.vt a := ⟨by omega, by omega⟩
  have vb : Pl.vt b := ⟨by omega, by omega⟩
  have vb1 : Pl.vt (b + 1) := ⟨by omega, by omega⟩
  have vc : Pl.vt c := ⟨by omega, by omega⟩
  have Q := Lib.hid (PB.start (q := q) L (hI.2.2 (by omega)))
  by_cases ok : q.Ok
  · have r1 := Pl.errT_two ok va vb
    have r2 := Pl.errT_two ok vb1 vc
    have r3 := Pl.errT_two ok va vc
    have r4 := Pl.errT_two ok vb1 vb
    obtain ⟨m, hm⟩ : ∃ m, q.cnt a b = m := ⟨_, rfl⟩
    obtain ⟨k, hk⟩ : ∃ k, q.cnt (b + 1) c = k := ⟨_, rfl⟩
    have hall : q.cnt a c = m + k := by
      have e : (c - a + 1).toNat = (b - a + 1).toNat + (c - (b + 1) + 1).toNat := by omega
      have e' : a + ((b - a + 1).toNat : Int) = b + 1 := by omega
      rw [← hm, ← hk]
      unfold Pl.P.cnt
      rw [e, cnt_add, e']
    have hz : q.cnt (b + 1) b = 0 := by
      unfold Pl.P.cnt
      rw [show (b - (b + 1) + 1).toNat = 0 by omega]
      rfl
    have sm : m ≤ 17280000 := by
      have := Pl.cnt_le q.K a (b - a + 1).toNat
      unfold Pl.P.cnt at hm
      omega
    have sk : k ≤ 17280001 := by
      have := Pl.cnt_le q.K (b + 1) (c - (b + 1) + 1).toNat
      unfold Pl.P.cnt at hk
      omega
    have e8 : IntKind.i64.wrap ((m : Int) + (k : Int)) = (m : Int) + (k : Int) := by rw [IntKind.wrap_i64]; omega
    obtain ⟨l, hl⟩ := Pl.tms_ex q.K b 25 a
    have ll : l.length = min 25 m := by rw [tms_len hl, ← hm]; rfl
    have i1 : Pl.CountR q a b m 0 := ⟨r1.symm, .inr ⟨rfl, by rw [hm]⟩⟩
    have i2 : Pl.CountR q (b + 1) c k 0 := ⟨r2.symm, .inr ⟨rfl, by rw [hk]⟩⟩
    have i3 : Pl.CountR q a c ((m : Int) + (k : Int)) 0 := ⟨r3.symm, .inr ⟨rfl, by rw [hall]; simp⟩⟩
    have i4 : Pl.CountR q (b + 1) b 0 0 := ⟨r4.symm, .inr ⟨rfl, by rw [hz]; rfl⟩⟩
    have i5 : Pl.ListR q a b 25 l 0 := ⟨r1.symm, .inr ⟨rfl, hl⟩⟩
    have C1 := Lib.hid (fun W (h : PB w w.heap.size q (.slice a0 q.l.length cap) W) => h.count hx a b m 0 i1)
    have C2 := Lib.hid (fun W (h : PB w w.heap.size q (.slice a0 q.l.length cap) W) => h.count hx (b + 1) c k 0 i2)
    have C3 := Lib.hid (fun W (h : PB w w.heap.size q (.slice a0 q.l.length cap) W) => h.count hx a c ((m : Int) + (k : Int)) 0 i3)
    have C4 := Lib.hid (fun W (h : PB w w.heap.size q (.slice a0 q.l.length cap) W) => h.count hx (b + 1) b 0 0 i4)
    have C5 := Lib.hid (fun W (h : PB w w.heap.size q (.slice a0 q.l.length cap) W) => h.list hx a b 25 l 0 i5)
    have t5 : (((l.length : Nat) : Int) == min (m : Int) 25) = true := by rw [beq_iff_eq]; omega
    clear i1 i2 i3 i4 i5 r1 r2 r3 r4 hm hk hall hz sm sk hl ll va vb vb1 vc ok hb hc bf1 bs1 bf bs ba big a1 a2 hI L hx wa wf ws RX
    go_enter Tryz.func9, Tryz.ntmps9
    go_wp2_with fail
    refine (C1.out _ Q.out).mono ?_
    rintro e wc1 ⟨rfl, h⟩
    have R1 := Lib.hid h
    clear h
    obtain ⟨c0, c1, c2, c3, c4, c5, c6, c7, c8, c9, c10, c11, c12, c13⟩ := R1.out.cells
    go_wp2_with fail
    refine (C2.out _ R1.out).mono ?_
    rintro e wc2 ⟨rfl, h⟩
    have R2 := Lib.hid h
    clear h
    clear c0 c1 c2 c3 c4 c5 c6 c7 c8 c9 c10 c11 c12 c13
    obtain ⟨c0, c1, c2, c3, c4, c5, c6, c7, c8, c9, c10, c11, c12, c13⟩ := R2.out.cells
    go_wp2_with fail
    refine (C3.out _ R2.out).mono ?_
    rintro e wc3 ⟨rfl, h⟩
    have R3 := Lib.hid h
    clear h
    clear c0 c1 c2 c3 c4 c5 c6 c7 c8 c9 c10 c11 c12 c13
    obtain ⟨c0, c1, c2, c3, c4, c5, c6, c7, c8, c9, c10, c11, c12, c13⟩ := R3.out.cells
    go_wp2_with fail
    refine (C5.out _ R3.out).mono ?_
    rintro e wc4 ⟨A4, d4, rfl, rt, h, hb⟩
    have R4 := Lib.hid h
    have RT4 := Lib.hid rt
    clear h rt hb
    clear c0 c1 c2 c3 c4 c5 c6 c7 c8 c9 c10 c11 c12 c13
    obtain ⟨c0, c1, c2, c3, c4, c5, c6, c7, c8, c9, c10, c11, c12, c13⟩ := R4.out.cells
    go_wp2_with fail
    refine (C4.out _ R4.out).mono ?_
    rintro e wc5 ⟨rfl, h⟩
    have R5 := Lib.hid h
    clear h
    clear c0 c1 c2 c3 c4 c5 c6 c7 c8 c9 c10 c11 c12 c13
    obtain ⟨c0, c1, c2, c3, c4, c5, c6, c7, c8, c9, c10, c11, c12, c13⟩ := R5.out.cells
    go_wp2_with fail
    refine (R5.out.works).mono ?_
    rintro e wc6 ⟨rfl, h⟩
    have R6 := Lib.hid h
    clear h
    clear c0 c1 c2 c3 c4 c5 c6 c7 c8 c9 c10 c11 c12 c13
    obtain ⟨c0, c1, c2, c3, c4, c5, c6, c7, c8, c9, c10, c11, c12, c13⟩ := R6.out.cells
    go_wp2_with fail
    go_ret
    exact ⟨rfl, R6.out.below⟩
  · have r1 : q.errT [a, b] = 16 := by unfold Pl.P.errT; rw [if_neg (fun z => ok (Pl.P.err_ok.1 z))]
    have i1 : Pl.CountR q a b 0 16 := ⟨r1.symm, .inl ⟨by omega, rfl⟩⟩
    have C1 := Lib.hid (fun W (h : PB w w.heap.size q (.slice a0 q.l.length cap) W) => h.count hx a b 0 16 i1)
    clear i1 r1 va vb vb1 vc ok hb hc bf1 bs1 bf bs ba big a1 a2 hI L hx wa wf ws RX
    go_enter Tryz.func9, Tryz.ntmps9
    go_wp2_with fail
    refine (C1.out _ Q.out).mono ?_
    rintro e wc1 ⟨rfl, h⟩
    have R1 := Lib.hid h
    clear h
    obtain ⟨c0, c1, c2, c3, c4, c5, c6, c7, c8, c9, c10, c11, c12, c13⟩ := R1.out.cells
    go_wp2_with fail
    refine (R1.out.works).mono ?_
    rintro e wc2 ⟨rfl, h⟩
    have R2 := Lib.hid h
    clear h
    clear c0 c1 c2 c3 c4 c5 c6 c7 c8 c9 c10 c11 c12 c13
    obtain ⟨c0, c1, c2, c3, c4, c5, c6, c7, c8, c9, c10, c11, c12, c13⟩ := R2.out.cells
    go_wp2_with fail
    go_ret
    exact ⟨rfl, R2.out.below⟩

set_option maxRecDepth 100000 in
theorem lifted (os : Os) (started : os.Started) (H : Type) (enc : TypeId × Value → H) :
    ReturnsInHanded {} Tryz.checked os 9 .any (fun w args => (Rows.planSumsSpec.pre enc Tryz.prog Tryz.f9 [] false w args ∧ laidMetH Tryz.prog Rows.planSumsRow.laid w) ∧ sizedMet enc Tryz.prog Tryz.f9 (OpenSpec.ofChange Rows.planSumsSpec) false w args)
      (Rows.planSumsSpec.post enc Tryz.prog Tryz.f9 false true false false) := by
  refine returnsInHanded_of_change_and (C := Tryz.checked) (X := fun w _ => laidMetH Tryz.prog Rows.planSumsRow.laid w) (fun _ _ _ hh h => h.of_heap hh) own started (by kernel_rfl) Tryz.func9
    (ChangeSpec.witness_shaped (enc := enc) (C := Tryz.checked) (os := os) (X := fun w _ => laidMetH Tryz.prog Rows.planSumsRow.laid w) false (World.laidAll Tryz.prog os Rows.planSumsRow.laid) #[.agg #[.int .i64 0, .int .u64 0, .int .u64 0, .int .u64 0, .int .u64 0, .int .u64 0, .int .u64 0, .bool false, .bool false, .int .i64 0, .int .i64 0, .int .i64 0, .int .i64 0, .slice none 0 0], .int .i64 0, .int .u32 0, .int .u32 0] 8 (World.laidAll_os _ _ _) (World.shaped_of_ZipB (by kernel_rfl) (by kernel_rfl)) (by kernel_rfl) (by kernel_rfl) (by kernel_rfl) (by rw [MakeChecks.laidMetH_plain _ _ _ (by kernel_rfl)]; exact laidMet_laidAll _ (by kernel_rfl) (by kernel_rfl))) ?_
  intro W base args ds gs before hval0 hW _ _ hL _
  have hval : ∀ (j : Nat) t v, Tryz.f9.params[j]? = some t → args[j]? = some v → Value.okWide Tryz.prog W .any base t v := hval0
  have hW' := hW
  obtain ⟨p, q, hA0, hV, rfl, hfz, hnd⟩ := hW
  have hA : DataW.TrodAll enc Tryz.prog W 0 (fun _ => true) true Tryz.f9.params.toList args.toList ds p := hA0
  rw [Tryz.params9] at hA hval
  obtain ⟨v0, vs0, d0, ds0, p0, q0, hargs, rfl, rfl, h0, r0⟩ := trodAll_cons hA
  obtain ⟨v1, vs1, d1, ds1, p1, q1, rfl, rfl, rfl, h1, r1⟩ := trodAll_cons r0
  obtain ⟨v2, vs2, d2, ds2, p2, q2, rfl, rfl, rfl, h2, r2⟩ := trodAll_cons r1
  obtain ⟨v3, vs3, d3, ds3, p3, q3, rfl, rfl, rfl, h3, r3⟩ := trodAll_cons r2
  obtain ⟨rfl, rfl, rfl⟩ := trodAll_nil r3
  obtain rfl : args = #[v0, v1, v2, v3] := by cases args; simp_all
  obtain ⟨rfl, rfl⟩ := trodVars_none hV
  obtain ⟨pl0, a0, cap0, rfl, b0, w0, i0⟩ := open_plan (hval 0 29 v0 rfl rfl) h0
  have k0 := h0
  have lt0 : ∀ x ∈ p0, x.block < W.heap.size := by obtain ⟨m, hm⟩ := k0; exact DataW.trod_lt m _ _ _ hm
  obtain ⟨a1, rfl, rfl, rfl, w1⟩ := open_int Tryz.underlying2 (hval 1 2 v1 rfl rfl) h1
  obtain ⟨a2, rfl, rfl, rfl, w2⟩ := open_int Tryz.underlying57 (hval 2 57 v2 rfl rfl) h2
  obtain ⟨a3, rfl, rfl, rfl, w3⟩ := open_int Tryz.underlying57 (hval 3 57 v3 rfl rfl) h3
  clear hA0 hval0
  refine (walk pl0 a0 cap0 a1 a2 a3 W (layM_of _ W (by kernel_rfl) (.head _) (.tail _ (.head _)) (by kernel_rfl) (by kernel_rfl) hL) b0 w0 i0 w1 w2 w3).mono fun e W' ⟨he, bel⟩ => ?_
  subst he
  exact ⟨_, rfl, _, _, _, [], _, [], hW', trodAll_mk1 (shut_bool Tryz.underlying4 _), (trodAll_cons_mk (Below.trod laidOut (by kernel_rfl) (of_decide_eq_true (by kernel_rfl)) k0 bel lt0) (trodAll_cons_mk (shut_int Tryz.underlying2 w1) (trodAll_cons_mk (shut_int Tryz.underlying57 w2) (trodAll_cons_mk (shut_int Tryz.underlying57 w3) trodAll_mk0)))), rfl, bel.frame _, fun h => by cases h⟩

theorem row_holds : Rows.PlanSumsSaid :=
  OpenClaim.holds_of_wide 9 Tryz.f9 rfl rfl rfl rfl rfl rfl rfl ⟨rfl, rfl, rfl, rfl, rfl⟩ rfl rfl rfl rfl rfl (by kernel_rfl) Tryz.func9 (by kernel_rfl)
    (of_decide_eq_true (by kernel_rfl)) (by unfold Func.isWrapper; first | (rw [if_pos (by decide +kernel)]; kernel_rfl) | (rw [if_neg (by decide +kernel)]; exact ⟨rfl, rfl⟩))
    (fun os started H enc _ => lifted os started H enc)

theorem proved : Rows.PlanSumsCardSaid :=
  Claim7.holds_tied_plain_at .later [] Rows.planSumsCard.laidKinds true Rows.planSumsCard.stood.harness Rows.planSumsCard.stood.looks
    row_holds (fun _ h => by cases h) (by kernel_rfl) (fun _ h => by cases h) planSums_row_tie rfl ⟨rfl, rfl⟩ (by kernel_rfl) rfl
    (fun f fn hf hfn => by
      obtain rfl : f = 9 := Option.some.inj ((show Tryz.prog.funcNamed Rows.planSumsRow.func = some 9 by kernel_rfl).symm.trans hf) |>.symm
      obtain rfl : fn = Tryz.f9 := (Option.some.inj (Tryz.func9.symm.trans hfn)).symm
      exact ⟨looks0, fun j t ht => by
        rw [Tryz.params9] at ht
        have hm : t ∈ [29, 2, 57, 57] := by simpa using Array.mem_of_getElem? ht
        have hall : ([29, 2, 57, 57].all fun u => !Tryz.prog.wantsStandIn u) = true := by kernel_rfl
        exact (show Tryz.prog.wantsStandIn t = false by simpa using List.all_eq_true.1 hall t hm)⟩)
    (by kernel_rfl)

end Go.Proofs.YtljackjcgfaanaaGreatDoor.planSums
