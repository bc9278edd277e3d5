/- For all expressions, ExprPrints returns true: which expressions are valid, their texts, and how often they match in a day, is as the document says. Condition: the program's tables start as its text lays them (tied). -/
import Derived.Test.YtpnfifhanmpapaaGreatDoorMExpG
import Derived.Test.YtpnfifhanmpapaaGreatDoorExpRe
import Derived.Test.YtpnfifhanmpapaaGreatDoorExpRs
namespace Go.Proofs.YtpnfifhanmpapaaGreatDoor.exprPrints
open Go.ChangeShapes Go.WideShapes Go.ChangeAt Go.RowKit Go.ChangeMaps

set_option maxRecDepth 100000 in
set_option maxHeartbeats 4000000 in
theorem print7_no (x : Exp.Ex) (hx : x.Bd) (hk : x.okB = false) (w : World) :
    Calls Tryz.prog 20 #[.agg #[.int .u64 x.a0, .int .u64 x.a1, .int .u64 x.a2, .int .u64 x.a3, .int .u64 x.a4, .int .u64 x.a5, .bool x.b3, .bool x.b5]] w fun e w' => e = .returned (.tuple #[.string ⟨#[]⟩, .int .i64 16]) ∧ Below w.heap.size w w' := by
  have CK := Lib.hid (fun w => check7_ex x hx w)
  have B0 := Lib.hid ((Below.refl w.heap.size w).alloc (Nat.le_refl _) (.cells (exL x).toArray 25))
  rw [hk] at CK
  clear hx hk
  go_enter Tryz.func20, Tryz.ntmps20
  go_wp2_with fail
  refine (CK.out _).mono ?_
  rintro e w1 ⟨rfl, hb⟩
  have HB := Lib.hid (B0.out.trans (hb.mono (by simp)))
  have e16 : errOk false = 16 := rfl
  clear hb
  go_wp2_with fail
  go_ret2
  exact ⟨rfl, HB.out⟩
/-- what the document's Print returns for any expression -/
theorem print7_any (x : Exp.Ex) (hx : x.Bd) (w : World) :
    Calls Tryz.prog 20 #[.agg #[.int .u64 x.a0, .int .u64 x.a1, .int .u64 x.a2, .int .u64 x.a3, .int .u64 x.a4, .int .u64 x.a5, .bool x.b3, .bool x.b5]] w fun e w' => e = .returned (.tuple #[.string ⟨(if x.okB = true then x.text else []).toArray⟩, .int .i64 (errOk x.okB)]) ∧ Below w.heap.size w w' := by
  cases h : x.okB with
  | true => rw [if_pos rfl]; exact print7_yes x (Exp.okB_iff.1 h) w
  | false => rw [if_neg (by simp)]; exact print7_no x hx h w

set_option maxRecDepth 100000 in
set_option maxHeartbeats 8000000 in
theorem walk (x : Exp.Ex) (w : World) (L : Lay w) (hx : x.Bd) :
    Calls Tryz.prog 4 #[.agg #[.int .u64 x.a0, .int .u64 x.a1, .int .u64 x.a2, .int .u64 x.a3, .int .u64 x.a4, .int .u64 x.a5, .bool x.b3, .bool x.b5]] w fun e w' => e = .returned (.bool true) ∧ Below w.heap.size w w' := by
  have p1 := fun (W : World) (l : Lay W) => print_any x hx W l
  have p2 := fun W : World => print7_any x hx W
  have s1 := fun W : World => seconds_any x hx W
  have s2 := fun W : World => seconds7_any x hx W
  have k1 := fun W : World => check_ex x hx W
  have k2 := fun W : World => check7_ex x hx W
  obtain ⟨T, hT⟩ : ∃ T : ByteArray, (⟨(if x.okB = true then x.text else []).toArray⟩ : ByteArray) = T := ⟨_, rfl⟩
  obtain ⟨eo, he⟩ : ∃ e : Int, errOk x.okB = e := ⟨_, rfl⟩
  obtain ⟨n, hn⟩ : ∃ n : Nat, (if x.okB = true then x.secs else 0 : Nat) = n := ⟨_, rfl⟩
  rw [hT, he] at p1 p2
  rw [hn, he] at s1 s2
  rw [he] at k1 k2
  have B0 := (XC.start L).box x
  obtain ⟨B, hB⟩ : ∃ B, w.heap.size = B := ⟨_, rfl⟩
  have P1 := Lib.hid (fun (W : World) (h : XC w [(w.heap.size, x)] W) => (p1 W h.lay).mono fun _ _ ⟨a, b⟩ => And.intro a (h.next b))
  have P2 := Lib.hid (fun (W : World) (h : XC w [(w.heap.size, x)] W) => (p2 W).mono fun _ _ ⟨a, b⟩ => And.intro a (h.next b))
  have S1 := Lib.hid (fun (W : World) (h : XC w [(w.heap.size, x)] W) => (s1 W).mono fun _ _ ⟨a, b⟩ => And.intro a (h.next b))
  have S2 := Lib.hid (fun (W : World) (h : XC w [(w.heap.size, x)] W) => (s2 W).mono fun _ _ ⟨a, b⟩ => And.intro a (h.next b))
  have K1 := Lib.hid (fun (W : World) (h : XC w [(w.heap.size, x)] W) => (k1 W).mono fun _ _ ⟨a, b⟩ => And.intro a (h.next b))
  have K2 := Lib.hid (fun (W : World) (h : XC w [(w.heap.size, x)] W) => (k2 W).mono fun _ _ ⟨a, b⟩ => And.intro a (h.next b))
  have CE := Lib.hid (fun (W : World) (h : XC w [(w.heap.size, x)] W) => h.cells w.heap.size x (by simp))
  have Q := Lib.hid B0
  clear p1 p2 s1 s2 k1 k2 hT he hn B0 hx hB
  go_enter Tryz.func4, Tryz.ntmps4
  go_wp2_with fail
  refine (P1.out _ Q.out).mono ?_
  rintro e w1 ⟨rfl, q⟩
  obtain ⟨c0, c1, c2, c3, c4, c5, c6, c7⟩ := CE.out _ q
  have Q := Lib.hid q
  clear q
  go_wp2_with fail
  refine (P2.out _ Q.out).mono ?_
  rintro e w2 ⟨rfl, q⟩
  obtain ⟨c0, c1, c2, c3, c4, c5, c6, c7⟩ := CE.out _ q
  have Q := Lib.hid q
  clear q
  go_wp2_with fail
  refine (S1.out _ Q.out).mono ?_
  rintro e w3 ⟨rfl, q⟩
  obtain ⟨c0, c1, c2, c3, c4, c5, c6, c7⟩ := CE.out _ q
  have Q := Lib.hid q
  clear q
  go_wp2_with fail
  refine (S2.out _ Q.out).mono ?_
  rintro e w4 ⟨rfl, q⟩
  obtain ⟨c0, c1, c2, c3, c4, c5, c6, c7⟩ := CE.out _ q
  have Q := Lib.hid q
  clear q P1 P2 S1 S2
  go_wp2_with fail
  go_region_held3 (fun w' => w'.cell? ⟨w.heap.size, 0, none⟩ = some (.int .u64 x.a0) ∧ w'.cell? ⟨w.heap.size, 1, none⟩ = some (.int .u64 x.a1) ∧ w'.cell? ⟨w.heap.size, 2, none⟩ = some (.int .u64 x.a2) ∧ w'.cell? ⟨w.heap.size, 3, none⟩ = some (.int .u64 x.a3) ∧ w'.cell? ⟨w.heap.size, 4, none⟩ = some (.int .u64 x.a4) ∧ w'.cell? ⟨w.heap.size, 5, none⟩ = some (.int .u64 x.a5) ∧ w'.cell? ⟨w.heap.size, 6, none⟩ = some (.bool x.b3) ∧ w'.cell? ⟨w.heap.size, 7, none⟩ = some (.bool x.b5)) (go_keep)
    (first | (go_at_call 23; refine (K1.out _ (by first | exact Q.out | exact Q.out.drew)).mono ?_; rintro e w20 ⟨rfl, q'⟩; have Q := Lib.hid q'; obtain ⟨c0, c1, c2, c3, c4, c5, c6, c7⟩ := CE.out _ q'; clear q') | (go_at_call 24; refine (K2.out _ (by first | exact Q.out | exact Q.out.drew)).mono ?_; rintro e w20 ⟨rfl, q'⟩; have Q := Lib.hid q'; obtain ⟨c0, c1, c2, c3, c4, c5, c6, c7⟩ := CE.out _ q'; clear q') | (go_at_call 12; refine (XC.works (by first | exact Q.out | exact Q.out.drew)).mono ?_; rintro e w20 ⟨rfl, q'⟩; have Q := Lib.hid q'; obtain ⟨c0, c1, c2, c3, c4, c5, c6, c7⟩ := CE.out _ q'; clear q'))
  go_wp2_with fail
  go_ret
  exact ⟨rfl, Q.out.below⟩

set_option maxRecDepth 100000 in
theorem lifted (os : Os) (started : os.Started) (H : Type) (enc : TypeId × Value → H) :
    ReturnsInHanded {} Tryz.checked os 4 .any (fun w args => (Rows.exprPrintsSpec.pre enc Tryz.prog Tryz.f4 [] false w args ∧ laidMetH Tryz.prog Rows.exprPrintsRow.laid w) ∧ sizedMet enc Tryz.prog Tryz.f4 (OpenSpec.ofChange Rows.exprPrintsSpec) false w args)
      (Rows.exprPrintsSpec.post enc Tryz.prog Tryz.f4 false true false false) := by
  refine returnsInHanded_of_change_and (C := Tryz.checked) (X := fun w _ => laidMetH Tryz.prog Rows.exprPrintsRow.laid w) (fun _ _ _ hh h => h.of_heap hh) own started (by kernel_rfl) Tryz.func4
    (ChangeSpec.witness_shaped (enc := enc) (C := Tryz.checked) (os := os) (X := fun w _ => laidMetH Tryz.prog Rows.exprPrintsRow.laid w) false (World.laidAll Tryz.prog os Rows.exprPrintsRow.laid) #[.agg #[.int .u64 0, .int .u64 0, .int .u64 0, .int .u64 0, .int .u64 0, .int .u64 0, .bool false, .bool false]] 8 (World.laidAll_os _ _ _) (World.shaped_of_ZipB (by kernel_rfl) (by kernel_rfl)) (by kernel_rfl) (by kernel_rfl) (by kernel_rfl) (by rw [MakeChecks.laidMetH_plain _ _ _ (by kernel_rfl)]; exact laidMet_laidAll _ (by kernel_rfl) (by kernel_rfl))) ?_
  intro W base args ds gs before hval0 hW _ _ hL _
  have hval : ∀ (j : Nat) t v, Tryz.f4.params[j]? = some t → args[j]? = some v → Value.okWide Tryz.prog W .any base t v := hval0
  have hW' := hW
  obtain ⟨p, q, hA0, hV, rfl, hfz, hnd⟩ := hW
  have hA : DataW.TrodAll enc Tryz.prog W 0 (fun _ => true) true Tryz.f4.params.toList args.toList ds p := hA0
  rw [Tryz.params4] at hA hval
  obtain ⟨v0, vs0, d0, ds0, p0, q0, hargs, rfl, rfl, h0, r0⟩ := trodAll_cons hA
  obtain ⟨rfl, rfl, rfl⟩ := trodAll_nil r0
  obtain rfl : args = #[v0] := by cases args; simp_all
  obtain ⟨rfl, rfl⟩ := trodVars_none hV
  obtain ⟨x0, rfl, w0⟩ := open_expr (hval 0 25 v0 rfl rfl) h0
  have k0 := h0
  have lt0 : ∀ x ∈ p0, x.block < W.heap.size := by obtain ⟨m, hm⟩ := k0; exact DataW.trod_lt m _ _ _ hm
  clear hA0 hval0
  refine (walk x0 W (lay_of _ W (by kernel_rfl) (.tail _ (.head _)) (by kernel_rfl) hL) w0).mono fun e W' ⟨he, bel⟩ => ?_
  subst he
  exact ⟨_, rfl, _, _, _, [], _, [], hW', trodAll_mk1 (shut_bool Tryz.underlying4 _), (trodAll_cons_mk (Below.trod laidOut (by kernel_rfl) (of_decide_eq_true (by kernel_rfl)) k0 bel lt0) trodAll_mk0), rfl, bel.frame _, fun h => by cases h⟩

theorem row_holds : Rows.ExprPrintsSaid :=
  OpenClaim.holds_of_wide 4 Tryz.f4 rfl rfl rfl rfl rfl rfl rfl ⟨rfl, rfl, rfl, rfl, rfl⟩ rfl rfl rfl rfl rfl (by kernel_rfl) Tryz.func4 (by kernel_rfl)
    (of_decide_eq_true (by kernel_rfl)) (by unfold Func.isWrapper; first | (rw [if_pos (by decide +kernel)]; kernel_rfl) | (rw [if_neg (by decide +kernel)]; exact ⟨rfl, rfl⟩))
    (fun os started H enc _ => lifted os started H enc)

theorem proved : Rows.ExprPrintsCardSaid :=
  Claim7.holds_tied_plain_at .later [] Rows.exprPrintsCard.laidKinds true Rows.exprPrintsCard.stood.harness Rows.exprPrintsCard.stood.looks
    row_holds (fun _ h => by cases h) (by kernel_rfl) (fun _ h => by cases h) exprPrints_row_tie rfl ⟨rfl, rfl⟩ (by kernel_rfl) rfl
    (fun f fn hf hfn => by
      obtain rfl : f = 4 := Option.some.inj ((show Tryz.prog.funcNamed Rows.exprPrintsRow.func = some 4 by kernel_rfl).symm.trans hf) |>.symm
      obtain rfl : fn = Tryz.f4 := (Option.some.inj (Tryz.func4.symm.trans hfn)).symm
      exact ⟨looks0, fun j t ht => by
        rw [Tryz.params4] at ht
        have hm : t ∈ [25] := by simpa using Array.mem_of_getElem? ht
        have hall : ([25].all fun u => !Tryz.prog.wantsStandIn u) = true := by kernel_rfl
        exact (show Tryz.prog.wantsStandIn t = false by simpa using List.all_eq_true.1 hall t hm)⟩)
    (by kernel_rfl)
end Go.Proofs.YtpnfifhanmpapaaGreatDoor.exprPrints
