/- For all numbers of which a valid expression is made, ExprTexts returns true: the expression is read from its text, which is its own normal text, and has five words, or six if Second is another set than that of 0. Condition: the program's tables start as its text lays them (tied). -/
import Derived.Test.YtpnfifhanmpapaaGreatDoorMExpG
import Derived.Test.YtpnfifhanmpapaaGreatDoorExpSp
namespace Go.Proofs.YtpnfifhanmpapaaGreatDoor.exprTexts
open Go.ChangeShapes Go.WideShapes Go.ChangeAt Go.RowKit

theorem p_split {w W : World} {l : List (Nat × Exp.Ex)} (h : XC w l W) (T : ByteArray) (x : Exp.Ex) (hx : x.Ok) (hT : T.data.toList = x.text) (n : Nat) (hn : x.ws.length = n) :
    Calls Tryz.prog 26 #[.string T, .string ⟨#[32]⟩] W fun e W' => (∃ A, e = .returned (.slice A n n)) ∧ XC w l W' := by
  have ne : x.ws ≠ [] := by
    intro e
    have := Exp.ws_len x
    rw [e] at this
    split at this <;> cases this
  have hz : T.size ≤ 1000000 := by
    have := Exp.text_len x
    rw [Lib.size_eq, hT]; omega
  refine (split_words T hz x.ws ne (fun t ht => not_bl (Exp.ws_words hx t ht).2) hT W).mono fun e w' ⟨h1, h2⟩ => ?_
  rw [hn] at h1
  exact ⟨⟨_, h1⟩, by rw [h2]; exact h.alloc _⟩

set_option maxRecDepth 100000 in
set_option maxHeartbeats 4000000 in
theorem walk (z : Exp.Ex) (k : Nat) (w : World) (L : Lay w) (hz : z.Bd) (hk : k < 256) :
    Calls Tryz.prog 5 #[.agg #[.int .u64 z.a0, .int .u64 z.a1, .int .u64 z.a2, .int .u64 z.a3, .int .u64 z.a4, .int .u64 z.a5, .int .u8 k]] w fun e w' => e = .returned (.bool true) ∧ Below w.heap.size w w' := by
  obtain ⟨x, hx⟩ : ∃ x, Exp.made z k = x := ⟨_, rfl⟩
  have hok : x.Ok := by rw [← hx]; exact Exp.made_ok z k
  have MA := Lib.hid (fun w0 : World => made_any z hz k hk w0 x hx)
  obtain ⟨T, hT⟩ : ∃ T : ByteArray, T.data.toList = x.text := ⟨⟨x.text.toArray⟩, rfl⟩
  have hs : T.size ≤ 100000 := by
    have := Exp.text_len x
    rw [Lib.size_eq, hT]; omega
  have hpT : Exp.parse T.data.toList = (x, 0, 0) := by rw [hT, Exp.parse_text hok]
  have hnT : Exp.norm T.data.toList = (T.data.toList, 0, 0) := by rw [hT, Exp.norm_text hok]
  have eqx := same8_t x
  have B0 : XC w [] (w.alloc (.cells #[.int .u64 z.a0, .int .u64 z.a1, .int .u64 z.a2, .int .u64 z.a3, .int .u64 z.a4, .int .u64 z.a5, .int .u8 k] 42)) := (XC.start L).alloc _
  have LL := Lib.hid B0
  have PR := Lib.hid (fun (W : World) (B : Nat) (h : XC w [(B, x)] W) => h.print x hok T hT.symm)
  have PT := Lib.hid (fun (W : World) (B : Nat) (h : XC w [(B, x)] W) => h.parse T hs x 0 0 hpT)
  have NT := Lib.hid (fun (W : World) (C B : Nat) (h : XC w [(C, x), (B, x)] W) => h.normal T hs T 0 0 hnT)
  have OK := Lib.hid hok
  have HT := Lib.hid hT
  have wl := Exp.ws_len x
  obtain ⟨a0, ha0⟩ : ∃ a, x.a0 = a := ⟨_, rfl⟩
  rw [ha0] at wl
  have HA0 := Lib.hid ha0
  clear hx hok hs hpT hnT hT hz hk L B0 ha0
  go_enter Tryz.func5, Tryz.ntmps5
  go_wp2_with fail
  refine (MA.out _).mono ?_
  rintro e' w1 ⟨rfl, q⟩
  have Q := Lib.hid ((LL.out.next q).box x)
  clear q
  go_wp2_with fail
  obtain ⟨W1, hW1⟩ : ∃ W1, w1.alloc (.cells #[.int .u64 x.a0, .int .u64 x.a1, .int .u64 x.a2, .int .u64 x.a3, .int .u64 x.a4, .int .u64 x.a5, .bool x.b3, .bool x.b5] 25) = W1 := ⟨_, rfl⟩
  obtain ⟨B, hB⟩ : ∃ B, w1.heap.size = B := ⟨_, rfl⟩
  rw [hW1, hB] at Q
  rw [hW1]
  refine (PR.out _ _ Q.out).mono ?_
  rintro e' w2 ⟨rfl, q⟩
  have Q := Lib.hid q
  clear q hW1
  go_wp2_with fail
  refine (PT.out _ _ Q.out).mono ?_
  rintro e' w3 ⟨rfl, q⟩
  have Q := Lib.hid (q.box x)
  clear q
  go_wp2_with fail
  refine (NT.out _ _ _ Q.out).mono ?_
  rintro e' w4 ⟨rfl, q⟩
  obtain ⟨C, hC⟩ : ∃ C, w3.heap.size = C := ⟨_, rfl⟩
  rw [hC] at q
  obtain ⟨c0, c1, c2, c3, c4, c5, c6, c7⟩ := q.cells B x (by simp)
  obtain ⟨d0, d1, d2, d3, d4, d5, d6, d7⟩ := q.cells C x (by simp)
  have Q := Lib.hid q
  clear q MA LL PR PT NT hB
  by_cases h1 : a0 = 1
  · have SP := Lib.hid (fun (W : World) (h : XC w [(C, x), (B, x)] W) => p_split h T x OK.out HT.out 5 (by rw [wl, if_pos h1]))
    have t0 : ((x.a0 : Int) == 1) = true := by rw [HA0.out, h1]; rfl
    have t0n : (x.a0 == 1) = true := by rw [HA0.out, h1]; rfl
    clear wl h1 HA0
    go_wp2_with fail
    refine (XC.check Q.out x OK.out).mono ?_
    rintro e w20 ⟨rfl, q⟩
    obtain ⟨c0, c1, c2, c3, c4, c5, c6, c7⟩ := q.cells B x (by simp)
    obtain ⟨d0, d1, d2, d3, d4, d5, d6, d7⟩ := q.cells C x (by simp)
    have Q := Lib.hid q
    clear q
    go_wp2_with fail
    refine (SP.out _ Q.out).mono ?_
    rintro e w21 ⟨⟨A, rfl⟩, q⟩
    have Q := Lib.hid q
    clear q
    go_wp2_with fail
    refine (XC.works Q.out).mono ?_
    rintro e w22 ⟨rfl, q⟩
    have Q := Lib.hid q
    clear q
    go_wp2_with fail
    go_ret
    exact ⟨rfl, Q.out.below⟩
  · have SP := Lib.hid (fun (W : World) (h : XC w [(C, x), (B, x)] W) => p_split h T x OK.out HT.out 6 (by rw [wl, if_neg h1]))
    have t0 : ((x.a0 : Int) == 1) = false := by rw [HA0.out, beq_eq_false_iff_ne]; omega
    have t0n : (x.a0 == 1) = false := by rw [HA0.out, beq_eq_false_iff_ne]; omega
    clear wl h1 HA0
    go_wp2_with fail
    refine (XC.check Q.out x OK.out).mono ?_
    rintro e w20 ⟨rfl, q⟩
    obtain ⟨c0, c1, c2, c3, c4, c5, c6, c7⟩ := q.cells B x (by simp)
    obtain ⟨d0, d1, d2, d3, d4, d5, d6, d7⟩ := q.cells C x (by simp)
    have Q := Lib.hid q
    clear q
    go_wp2_with fail
    refine (SP.out _ Q.out).mono ?_
    rintro e w21 ⟨⟨A, rfl⟩, q⟩
    have Q := Lib.hid q
    clear q
    go_wp2_with fail
    refine (XC.works Q.out).mono ?_
    rintro e w22 ⟨rfl, q⟩
    have Q := Lib.hid q
    clear q
    go_wp2_with fail
    go_ret
    exact ⟨rfl, Q.out.below⟩

set_option maxRecDepth 100000 in
theorem lifted (os : Os) (started : os.Started) (H : Type) (enc : TypeId × Value → H) :
    ReturnsInHanded {} Tryz.checked os 5 .any (fun w args => (Rows.exprTextsSpec.pre enc Tryz.prog Tryz.f5 [] false w args ∧ laidMetH Tryz.prog Rows.exprTextsRow.laid w) ∧ sizedMet enc Tryz.prog Tryz.f5 (OpenSpec.ofChange Rows.exprTextsSpec) false w args)
      (Rows.exprTextsSpec.post enc Tryz.prog Tryz.f5 false true false false) := by
  refine returnsInHanded_of_change_and (C := Tryz.checked) (X := fun w _ => laidMetH Tryz.prog Rows.exprTextsRow.laid w) (fun _ _ _ hh h => h.of_heap hh) own started (by kernel_rfl) Tryz.func5
    (ChangeSpec.witness_shaped (enc := enc) (C := Tryz.checked) (os := os) (X := fun w _ => laidMetH Tryz.prog Rows.exprTextsRow.laid w) false (World.laidAll Tryz.prog os Rows.exprTextsRow.laid) #[.agg #[.int .u64 0, .int .u64 0, .int .u64 0, .int .u64 0, .int .u64 0, .int .u64 0, .int .u8 0]] 8 (World.laidAll_os _ _ _) (World.shaped_of_ZipB (by kernel_rfl) (by kernel_rfl)) (by kernel_rfl) (by kernel_rfl) (by kernel_rfl) (by rw [MakeChecks.laidMetH_plain _ _ _ (by kernel_rfl)]; exact laidMet_laidAll _ (by kernel_rfl) (by kernel_rfl))) ?_
  intro W base args ds gs before hval0 hW _ _ hL _
  have hval : ∀ (j : Nat) t v, Tryz.f5.params[j]? = some t → args[j]? = some v → Value.okWide Tryz.prog W .any base t v := hval0
  have hW' := hW
  obtain ⟨p, q, hA0, hV, rfl, hfz, hnd⟩ := hW
  have hA : DataW.TrodAll enc Tryz.prog W 0 (fun _ => true) true Tryz.f5.params.toList args.toList ds p := hA0
  rw [Tryz.params5] at hA hval
  obtain ⟨v0, vs0, d0, ds0, p0, q0, hargs, rfl, rfl, h0, r0⟩ := trodAll_cons hA
  obtain ⟨rfl, rfl, rfl⟩ := trodAll_nil r0
  obtain rfl : args = #[v0] := by cases args; simp_all
  obtain ⟨rfl, rfl⟩ := trodVars_none hV
  obtain ⟨z0, c0, rfl, w0, u0⟩ := open_sets (hval 0 42 v0 rfl rfl) h0
  have k0 := h0
  have lt0 : ∀ x ∈ p0, x.block < W.heap.size := by obtain ⟨m, hm⟩ := k0; exact DataW.trod_lt m _ _ _ hm
  clear hA0 hval0
  refine (walk z0 c0 W (lay_of _ W (by kernel_rfl) (.tail _ (.head _)) (by kernel_rfl) hL) w0 u0).mono fun e W' ⟨he, bel⟩ => ?_
  subst he
  exact ⟨_, rfl, _, _, _, [], _, [], hW', trodAll_mk1 (shut_bool Tryz.underlying4 _), (trodAll_cons_mk (Below.trod laidOut (by kernel_rfl) (of_decide_eq_true (by kernel_rfl)) k0 bel lt0) trodAll_mk0), rfl, bel.frame _, fun h => by cases h⟩

theorem row_holds : Rows.ExprTextsSaid :=
  OpenClaim.holds_of_wide 5 Tryz.f5 rfl rfl rfl rfl rfl rfl rfl ⟨rfl, rfl, rfl, rfl, rfl⟩ rfl rfl rfl rfl rfl (by kernel_rfl) Tryz.func5 (by kernel_rfl)
    (of_decide_eq_true (by kernel_rfl)) (by unfold Func.isWrapper; first | (rw [if_pos (by decide +kernel)]; kernel_rfl) | (rw [if_neg (by decide +kernel)]; exact ⟨rfl, rfl⟩))
    (fun os started H enc _ => lifted os started H enc)

theorem proved : Rows.ExprTextsCardSaid :=
  Claim7.holds_tied_plain_at .later [] Rows.exprTextsCard.laidKinds true Rows.exprTextsCard.stood.harness Rows.exprTextsCard.stood.looks
    row_holds (fun _ h => by cases h) (by kernel_rfl) (fun _ h => by cases h) exprTexts_row_tie rfl ⟨rfl, rfl⟩ (by kernel_rfl) rfl
    (fun f fn hf hfn => by
      obtain rfl : f = 5 := Option.some.inj ((show Tryz.prog.funcNamed Rows.exprTextsRow.func = some 5 by kernel_rfl).symm.trans hf) |>.symm
      obtain rfl : fn = Tryz.f5 := (Option.some.inj (Tryz.func5.symm.trans hfn)).symm
      exact ⟨looks0, fun j t ht => by
        rw [Tryz.params5] at ht
        have hm : t ∈ [42] := by simpa using Array.mem_of_getElem? ht
        have hall : ([42].all fun u => !Tryz.prog.wantsStandIn u) = true := by kernel_rfl
        exact (show Tryz.prog.wantsStandIn t = false by simpa using List.all_eq_true.1 hall t hm)⟩)
    (by kernel_rfl)
end Go.Proofs.YtpnfifhanmpapaaGreatDoor.exprTexts
