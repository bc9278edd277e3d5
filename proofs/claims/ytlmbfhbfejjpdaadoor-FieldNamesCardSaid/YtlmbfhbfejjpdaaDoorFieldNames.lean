/- For all kinds 'k' and numbers 'v', FieldNames returns true: names are those of the document, and so are the six kinds. Conditions: the variables of Go's library that the row lists start as the program's text lays them (tied). -/
import Derived.Test.YtlmbfhbfejjpdaaDoorFldKind
import Derived.Test.YtlmbfhbfejjpdaaDoorFldBB
import Derived.Deep.RegionHeld3
namespace Go.Proofs.YtlmbfhbfejjpdaaDoor.fieldNames
open Go.ChangeShapes Go.WideShapes Go.ChangeAt Go.RowKit Go.ChangeMaps

set_option maxRecDepth 100000 in
set_option maxHeartbeats 4000000 in
theorem walk (lo hi : Int) (v : Value) (xs : List ByteArray) (wk : Bool) (q0 : Int) (w : World) (L : Lay w) (hk : IsStrs w v xs ∧ xs.length ≤ 9223372036854775807 ∧ ∀ x ∈ xs, x.size ≤ 9223372036854775807) (_ : (Lit.int .i64 q0).wf = true) :
    Calls Tryd.prog 3 #[.agg #[.int .i64 lo, .int .i64 hi, v, .bool wk], .int .i64 q0] w fun e w' => e = .returned (.bool true) ∧ Below w.heap.size w w' := by
  obtain ⟨hv, hl, hs⟩ := hk
  obtain ⟨b, _, hsh⟩ := short_any lo hi xs wk hl hs
  have X := Lib.hid (KBox.new w lo hi v xs wk 24 hv)
  have LL := Lib.hid (L.below X.out.below)
  have SH := Lib.hid (fun w hv => hsh v w hv)
  have SP := Lib.hid (fun w hv => spec_any lo hi v xs wk w hv)
  have RF := Lib.hid (fun w hv => ref_any lo hi v xs wk w hv)
  obtain ⟨s, q, hn⟩ := nameIs_ex lo hi xs wk q0
  have NM := Lib.hid (fun w hv => name_any lo hi v xs wk q0 s q w hv hs hn)
  have NR := Lib.hid (fun w hv => nameR_any lo hi v xs wk q0 s q w hv hs hn)
  have se : (s.toList == s.toList) = true := by simp
  have sn : (s.toList != s.toList) = false := by simp
  obtain ⟨A, cap, rfl, _, _⟩ := hv
  clear hsh hl hs hn L
  cases b with
  | false =>
    clear se sn NM NR SP RF
    go_enter Tryd.func3, Tryd.ntmps3
    go_wp2_with fail
    refine (SH.out _ X.out.strs).mono ?_
    rintro e w1 ⟨rfl, hb⟩
    have X := Lib.hid (X.out.next hb)
    have LL := Lib.hid (LL.out.below hb)
    clear hb
    go_wp2_with fail
    refine (works_any _ LL.out).mono ?_
    rintro e w2 ⟨rfl, hb⟩
    have X := Lib.hid (X.out.next hb)
    clear hb
    go_wp2_with fail
    go_ret
    exact ⟨rfl, X.out.below⟩
  | true =>
    go_enter Tryd.func3, Tryd.ntmps3
    go_wp2_with fail
    refine (SH.out _ X.out.strs).mono ?_
    rintro e w1 ⟨rfl, hb⟩
    have X := Lib.hid (X.out.next hb)
    have LL := Lib.hid (LL.out.below hb)
    obtain ⟨_, _, _, c0, c1, c2, c3⟩ := X.out
    clear hb
    go_wp2_with fail
    refine (SP.out _ X.out.strs).mono ?_
    rintro e w2 ⟨rfl, hb⟩
    have X := Lib.hid (X.out.next hb)
    have LL := Lib.hid (LL.out.below hb)
    clear hb c0 c1 c2 c3
    go_wp2_with fail
    refine (NM.out _ X.out.strs).mono ?_
    rintro e w3 ⟨rfl, hb⟩
    have X := Lib.hid (X.out.next hb)
    have LL := Lib.hid (LL.out.below hb)
    obtain ⟨_, _, _, c0, c1, c2, c3⟩ := X.out
    clear hb
    go_wp2_with fail
    refine (RF.out _ X.out.strs).mono ?_
    rintro e w4 ⟨rfl, hb⟩
    have X := Lib.hid (X.out.next hb)
    have LL := Lib.hid (LL.out.below hb)
    clear hb c0 c1 c2 c3
    go_wp2_with fail
    refine (NR.out _ X.out.strs).mono ?_
    rintro e w5 ⟨rfl, hb⟩
    have X := Lib.hid (X.out.next hb)
    have LL := Lib.hid (LL.out.below hb)
    clear hb SH SP RF NM NR
    go_wp2_with fail
    refine (specs_any _).mono ?_
    rintro e w6 ⟨rfl, hb, h6⟩
    have X := Lib.hid (X.out.next hb)
    have LL := Lib.hid (LL.out.below hb)
    have S1 := Lib.hid h6.c
    obtain ⟨B1, hB1⟩ : ∃ B1, w5.heap.size + 1 + 1 = B1 := ⟨_, rfl⟩
    obtain ⟨n1, hn1⟩ : ∃ n1, na6 w5.heap.size = n1 := ⟨_, rfl⟩
    have hn1s : Hid (∀ i, i < 6 → ∃ A L C, n1 i = .slice A L C) := Lib.hid (fun i hi => by rw [← hn1]; obtain ⟨A, L, C, h, _⟩ := na6_slice w5.heap.size i hi; exact ⟨A, L, C, h⟩)
    rw [hB1, hn1] at S1
    rw [hB1]
    clear hb h6 hB1 hn1
    go_wp2_with fail
    refine (specsR_any _).mono ?_
    rintro e w7 ⟨rfl, hb, h7⟩
    have X := Lib.hid (X.out.next hb)
    obtain ⟨B2, hB2⟩ : ∃ B2, w6.heap.size + 1 + 1 = B2 := ⟨_, rfl⟩
    obtain ⟨n2, hn2⟩ : ∃ n2, na6 w6.heap.size = n2 := ⟨_, rfl⟩
    have hn2s : Hid (∀ i, i < 6 → ∃ A L C, n2 i = .slice A L C) := Lib.hid (fun i hi => by rw [← hn2]; obtain ⟨A, L, C, h, _⟩ := na6_slice w6.heap.size i hi; exact ⟨A, L, C, h⟩)
    rw [hB2, hn2] at h7
    rw [hB2]
    have Y : Hid (NCtx w w7 B1 B2 n1 n2) := Lib.hid ⟨X.out.below, LL.out.below hb, S1.out.next hb, h7⟩
    clear hb h7 hB2 hn2 X LL S1
    go_wp2_with fail
    clear se sn
    go_loopw [11] (fun i wr => ∃ k : Nat, k ≤ 6 ∧ i = .int .i64 k ∧ Hid (NCtx w wr B1 B2 n1 n2)) (fun i _ => 6 - (intOf i).toNat)
    case atStart => exact ⟨0, by omega, rfl, Y⟩
    case round =>
      obtain ⟨k, hk, rfl, Y⟩ := hrel
      by_cases hlt : k < 6
      · have t1 : decide ((k : Int) < 6) = true := by rw [decide_eq_true_iff]; omega
        have t1n : decide (k < 6) = true := by rw [decide_eq_true_iff]; omega
        have i0 : (0 : Int) ≤ (k : Int) := by omega
        have i1 : (k : Int) < 6 := by omega
        obtain ⟨A1, L1, C1, e1⟩ := hn1s.out k hlt
        obtain ⟨A2, L2, C2, e2⟩ := hn2s.out k hlt
        obtain ⟨x0, hx0⟩ : ∃ x, (kd6 k).lo = x := ⟨_, rfl⟩
        obtain ⟨x1, hx1⟩ : ∃ x, (kd6 k).hi = x := ⟨_, rfl⟩
        obtain ⟨x3, hx3⟩ : ∃ x, (kd6 k).week = x := ⟨_, rfl⟩
        have CS : Hid (∀ W, NCtx w W B1 B2 n1 n2 → W.cell? ⟨B1, k * 4, none⟩ = some (.int .i64 x0) ∧ W.cell? ⟨B1, k * 4 + 1, none⟩ = some (.int .i64 x1) ∧ W.cell? ⟨B1, k * 4 + 2, none⟩ = some (.slice A1 L1 C1) ∧ W.cell? ⟨B1, k * 4 + 3, none⟩ = some (.bool x3) ∧ W.cell? ⟨B2, k * 4, none⟩ = some (.int .i64 x0) ∧ W.cell? ⟨B2, k * 4 + 1, none⟩ = some (.int .i64 x1) ∧ W.cell? ⟨B2, k * 4 + 2, none⟩ = some (.slice A2 L2 C2) ∧ W.cell? ⟨B2, k * 4 + 3, none⟩ = some (.bool x3)) := Lib.hid (fun W h => by
          obtain ⟨a0, a1, a2, a3⟩ := h.one.cells k hlt
          obtain ⟨b0, b1, b2, b3⟩ := h.two.cells k hlt
          rw [hx0] at a0 b0
          rw [hx1] at a1 b1
          rw [e1] at a2
          rw [e2] at b2
          rw [hx3] at a3 b3
          exact ⟨a0, a1, a2, a3, b0, b1, b2, b3⟩)
        obtain ⟨a0, a1, a2, a3, b0, b1, b2, b3⟩ := CS.out _ Y.out
        have E1 := Lib.hid e1
        have E2 := Lib.hid e2
        clear e1 e2 hx0 hx1 hx3
        have n0 : ((x0 : Int) != (x0 : Int)) = false := by simp
        have n1' : ((x1 : Int) != (x1 : Int)) = false := by simp
        have n3 : (x3 != x3) = false := by simp
        go_wp2_with fail
        go_region_held3 (fun w' => w'.cell? ⟨B1, k * 4, none⟩ = some (.int .i64 x0) ∧ w'.cell? ⟨B1, k * 4 + 1, none⟩ = some (.int .i64 x1) ∧ w'.cell? ⟨B1, k * 4 + 2, none⟩ = some (.slice A1 L1 C1) ∧ w'.cell? ⟨B1, k * 4 + 3, none⟩ = some (.bool x3) ∧ w'.cell? ⟨B2, k * 4, none⟩ = some (.int .i64 x0) ∧ w'.cell? ⟨B2, k * 4 + 1, none⟩ = some (.int .i64 x1) ∧ w'.cell? ⟨B2, k * 4 + 2, none⟩ = some (.slice A2 L2 C2) ∧ w'.cell? ⟨B2, k * 4 + 3, none⟩ = some (.bool x3)) (go_keep)
          (first | (go_at_call 19; refine (texts_ctx (by first | exact Y.out | exact Y.out.drew) k hlt _ _ E1.out E2.out).mono ?_; rintro e w8 ⟨rfl, y2⟩; have Y := Lib.hid y2; obtain ⟨a0, a1, a2, a3, b0, b1, b2, b3⟩ := CS.out _ y2; clear y2))
        go_wp2_with fail
        go_roundw
        case rel => exact ⟨k + 1, by omega, by go_num, Y⟩
        case measure => simp [intOf]; omega
      · have t1 : decide ((k : Int) < 6) = false := by rw [decide_eq_false_iff_not]; omega
        have t1n : decide (k < 6) = false := by rw [decide_eq_false_iff_not]; omega
        go_wp2_with fail
        refine (works_any _ Y.out.lay).mono ?_
        rintro e w9 ⟨rfl, hb⟩
        have Y := Lib.hid (Y.out.next hb)
        clear hb
        go_wp2_with fail
        go_ret
        exact ⟨rfl, Y.out.below⟩


set_option maxRecDepth 100000 in
theorem lifted (os : Os) (started : os.Started) (H : Type) (enc : TypeId × Value → H) :
    ReturnsInHanded {} Tryd.checked os 3 .any (fun w args => (Rows.fieldNamesSpec.pre enc Tryd.prog Tryd.f3 [] false w args ∧ laidMetH Tryd.prog Rows.fieldNamesRow.laid w) ∧ sizedMet enc Tryd.prog Tryd.f3 (OpenSpec.ofChange Rows.fieldNamesSpec) false w args)
      (Rows.fieldNamesSpec.post enc Tryd.prog Tryd.f3 false true false false) := by
  refine returnsInHanded_of_change_and (C := Tryd.checked) (X := fun w _ => laidMetH Tryd.prog Rows.fieldNamesRow.laid w) (fun _ _ _ hh h => h.of_heap hh) own started (by kernel_rfl) Tryd.func3
    (ChangeSpec.witness_shaped (enc := enc) (C := Tryd.checked) (os := os) (X := fun w _ => laidMetH Tryd.prog Rows.fieldNamesRow.laid w) false (World.laidAll Tryd.prog os Rows.fieldNamesRow.laid) #[.agg #[.int .i64 0, .int .i64 0, .slice none 0 0, .bool false], .int .i64 0] 8 (World.laidAll_os _ _ _) (World.shaped_of_ZipB (by kernel_rfl) (by kernel_rfl)) (by kernel_rfl) (by kernel_rfl) (by kernel_rfl) (by rw [MakeChecks.laidMetH_plain _ _ _ (by kernel_rfl)]; exact laidMet_laidAll _ (by kernel_rfl) (by kernel_rfl))) ?_
  intro W base args ds gs before hval0 hW _ _ hL _
  have hval : ∀ (j : Nat) t v, Tryd.f3.params[j]? = some t → args[j]? = some v → Value.okWide Tryd.prog W .any base t v := hval0
  have hW' := hW
  obtain ⟨p, q, hA0, hV, rfl, hfz, hnd⟩ := hW
  have hA : DataW.TrodAll enc Tryd.prog W 0 (fun _ => true) true Tryd.f3.params.toList args.toList ds p := hA0
  rw [Tryd.params3] at hA hval
  obtain ⟨v0, vs0, d0, ds0, p0, q0, hargs, rfl, rfl, h0, r0⟩ := trodAll_cons hA
  obtain ⟨v1, vs1, d1, ds1, p1, q1, rfl, rfl, rfl, h1, r1⟩ := trodAll_cons r0
  obtain ⟨rfl, rfl, rfl⟩ := trodAll_nil r1
  obtain rfl : args = #[v0, v1] := by cases args; simp_all
  obtain ⟨rfl, rfl⟩ := trodVars_none hV
  obtain ⟨lo0, hi0, u0, xs0, wk0, rfl, w0⟩ := open_kind (hval 0 24 v0 rfl rfl) h0
  have k0 := h0
  have lt0 : ∀ x ∈ p0, x.block < W.heap.size := by obtain ⟨m, hm⟩ := k0; exact DataW.trod_lt m _ _ _ hm
  obtain ⟨a1, rfl, rfl, rfl, w1⟩ := open_int Tryd.underlying3 (hval 1 3 v1 rfl rfl) h1
  clear hA0 hval0
  refine (walk lo0 hi0 u0 xs0 wk0 a1 W (lay_of _ W (by kernel_rfl) (.tail _ (.head _)) (by kernel_rfl) hL) w0 w1).mono fun e W' ⟨he, bel⟩ => ?_
  subst he
  exact ⟨_, rfl, _, _, _, [], _, [], hW', trodAll_mk1 (shut_bool Tryd.underlying4 _), (trodAll_cons_mk (Below.trod laidOut (by kernel_rfl) (of_decide_eq_true (by kernel_rfl)) k0 bel lt0) (trodAll_cons_mk (shut_int Tryd.underlying3 w1) trodAll_mk0)), rfl, bel.frame _, fun h => by cases h⟩

theorem row_holds : Rows.FieldNamesSaid :=
  OpenClaim.holds_of_wide 3 Tryd.f3 rfl rfl rfl rfl rfl rfl rfl ⟨rfl, rfl, rfl, rfl, rfl⟩ rfl rfl rfl rfl rfl (by kernel_rfl) Tryd.func3 (by kernel_rfl)
    (of_decide_eq_true (by kernel_rfl)) (by unfold Func.isWrapper; first | (rw [if_pos (by decide +kernel)]; kernel_rfl) | (rw [if_neg (by decide +kernel)]; exact ⟨rfl, rfl⟩))
    (fun os started H enc _ => lifted os started H enc)

theorem proved : Rows.FieldNamesCardSaid :=
  Claim7.holds_tied_plain_at .later [] Rows.fieldNamesCard.laidKinds true Rows.fieldNamesCard.stood.harness Rows.fieldNamesCard.stood.looks
    row_holds (fun _ h => by cases h) (by kernel_rfl) (fun _ h => by cases h) fieldNames_row_tie rfl ⟨rfl, rfl⟩ (by kernel_rfl) rfl
    (fun f fn hf hfn => by
      obtain rfl : f = 3 := Option.some.inj ((show Tryd.prog.funcNamed Rows.fieldNamesRow.func = some 3 by kernel_rfl).symm.trans hf) |>.symm
      obtain rfl : fn = Tryd.f3 := (Option.some.inj (Tryd.func3.symm.trans hfn)).symm
      exact ⟨looks0, fun j t ht => by
        rw [Tryd.params3] at ht
        have hm : t ∈ [24, 3] := by simpa using Array.mem_of_getElem? ht
        have hall : ([24, 3].all fun u => !Tryd.prog.wantsStandIn u) = true := by kernel_rfl
        exact (show Tryd.prog.wantsStandIn t = false by simpa using List.all_eq_true.1 hall t hm)⟩)
    (by kernel_rfl)
end Go.Proofs.YtlmbfhbfejjpdaaDoor.fieldNames
