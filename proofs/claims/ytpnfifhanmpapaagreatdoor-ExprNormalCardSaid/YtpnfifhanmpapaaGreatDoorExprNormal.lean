/- For every text, ExprNormal returns true: a text that is read has a normal text, which is read as the same expression, and is its own; one that is not read is wrong at a place in it, or behind it (texts of more than 500 bytes are not asked). Condition: the program's tables start as its text lays them (tied). -/
import Derived.Test.YtpnfifhanmpapaaGreatDoorMExpG
namespace Go.Proofs.YtpnfifhanmpapaaGreatDoor.exprNormal
open Go.ChangeShapes Go.WideShapes Go.ChangeAt Go.RowKit Go.ChangeMaps

set_option maxRecDepth 100000 in
set_option maxHeartbeats 4000000 in
theorem walk_bad (s : ByteArray) (w : World) (L : Lay w) (hs : s.size ≤ 500) (x : Exp.Ex) (a e : Nat) (hp : Exp.parse s.data.toList = (x, a, e)) (h0 : x = Exp.zero) (h1 : a ≤ s.data.toList.length) (h2 : e = 10 ∨ e = 2) :
    Calls Tryz.prog 6 #[.string s] w fun e w' => e = .returned (.bool true) ∧ Below w.heap.size w w' := by
  have t : decide ((500 : Int) < (s.size : Int)) = false := by rw [decide_eq_false_iff_not]; omega
  have t1 : decide ((0 : Int) ≤ (a : Int)) = true := by rw [decide_eq_true_iff]; omega
  have t2 : decide ((a : Int) ≤ (s.size : Int)) = true := by rw [decide_eq_true_iff, Lib.size_eq]; omega
  have t2n : decide (a ≤ s.size) = true := by rw [decide_eq_true_iff, Lib.size_eq]; omega
  have hn : Exp.norm s.data.toList = ((⟨#[]⟩ : ByteArray).data.toList, a, e) := by rw [Exp.norm_bad (by rw [hp]; show e ≠ 0; omega), hp]
  subst h0
  have LL := Lib.hid (XC.start L)
  have PA := Lib.hid (fun (W : World) (h : XC w [] W) => h.parse s (by omega) Exp.zero a e hp)
  have NO := Lib.hid (fun (W : World) (B : Nat) (h : XC w [(B, Exp.zero)] W) => h.normal s (by omega) ⟨#[]⟩ a e hn)
  clear hs hp h1 hn L
  rcases h2 with rfl | rfl
  all_goals
    go_enter Tryz.func6, Tryz.ntmps6
    go_wp2_with fail
    refine (PA.out _ LL.out).mono ?_
    rintro e' w1 ⟨rfl, q⟩
    have Q := Lib.hid (q.box0)
    clear q
    go_wp2_with fail
    refine (NO.out _ _ Q.out).mono ?_
    rintro e' w2 ⟨rfl, q⟩
    obtain ⟨B, hB⟩ : ∃ B, w1.heap.size = B := ⟨_, rfl⟩
    rw [hB] at q
    obtain ⟨c0, c1, c2, c3, c4, c5, c6, c7⟩ := q.cells0 B (by simp)
    have Q := Lib.hid q
    clear q
    go_wp2_with fail
    refine (XC.works Q.out).mono ?_
    rintro e w22 ⟨rfl, q⟩
    have Q := Lib.hid q
    clear q
    go_wp2_with fail
    go_ret
    exact ⟨rfl, Q.out.below⟩

set_option maxRecDepth 100000 in
set_option maxHeartbeats 4000000 in
theorem walk_good (s : ByteArray) (w : World) (L : Lay w) (hs : s.size ≤ 500) (x : Exp.Ex) (hp : Exp.parse s.data.toList = (x, 0, 0)) (hok : x.Ok) :
    Calls Tryz.prog 6 #[.string s] w fun e w' => e = .returned (.bool true) ∧ Below w.heap.size w w' := by
  have t : decide ((500 : Int) < (s.size : Int)) = false := by rw [decide_eq_false_iff_not]; omega
  obtain ⟨T, hT⟩ : ∃ T : ByteArray, T.data.toList = x.text := ⟨⟨x.text.toArray⟩, rfl⟩
  have hz : T.size ≤ 100000 := by
    have := Exp.text_len x
    rw [Lib.size_eq, hT]; omega
  have hn : Exp.norm s.data.toList = (T.data.toList, 0, 0) := by rw [Exp.norm_ok (by rw [hp]), hp, hT]
  have hpT : Exp.parse T.data.toList = (x, 0, 0) := by rw [hT, Exp.parse_text hok]
  have hnT : Exp.norm T.data.toList = (T.data.toList, 0, 0) := by rw [hT, Exp.norm_text hok]
  have eqx := same8_t x
  have LL := Lib.hid (XC.start L)
  have PA := Lib.hid (fun (W : World) (h : XC w [] W) => h.parse s (by omega) x 0 0 hp)
  have NO := Lib.hid (fun (W : World) (B : Nat) (h : XC w [(B, x)] W) => h.normal s (by omega) T 0 0 hn)
  have PT := Lib.hid (fun (W : World) (B : Nat) (h : XC w [(B, x)] W) => h.parse T hz x 0 0 hpT)
  have NT := Lib.hid (fun (W : World) (C B : Nat) (h : XC w [(C, x), (B, x)] W) => h.normal T hz T 0 0 hnT)
  have OK := Lib.hid hok
  clear hs hp hok hT hn hz hpT hnT L
  go_enter Tryz.func6, Tryz.ntmps6
  go_wp2_with fail
  refine (PA.out _ LL.out).mono ?_
  rintro e' w1 ⟨rfl, q⟩
  have Q := Lib.hid (q.box x)
  clear q
  go_wp2_with fail
  refine (NO.out _ _ Q.out).mono ?_
  rintro e' w2 ⟨rfl, q⟩
  obtain ⟨B, hB⟩ : ∃ B, w1.heap.size = B := ⟨_, rfl⟩
  rw [hB] at q
  have Q := Lib.hid q
  clear q
  go_wp2_with fail
  refine (PT.out _ _ Q.out).mono ?_
  rintro e' w3 ⟨rfl, q⟩
  have Q := Lib.hid (q.box x)
  clear q
  go_wp2_with fail
  refine (NT.out _ _ _ Q.out).mono ?_
  rintro e' w4 ⟨rfl, q⟩
  obtain ⟨C, hC⟩ : ∃ C, w3.heap.size = C := ⟨_, rfl⟩
  rw [hC] at q
  obtain ⟨c0, c1, c2, c3, c4, c5, c6, c7⟩ := q.cells B x (by simp)
  obtain ⟨d0, d1, d2, d3, d4, d5, d6, d7⟩ := q.cells C x (by simp)
  have Q := Lib.hid q
  clear q
  go_wp2_with fail
  refine (XC.check Q.out x OK.out).mono ?_
  rintro e w20 ⟨rfl, q⟩
  obtain ⟨c0, c1, c2, c3, c4, c5, c6, c7⟩ := q.cells B x (by simp)
  obtain ⟨d0, d1, d2, d3, d4, d5, d6, d7⟩ := q.cells C x (by simp)
  have Q := Lib.hid q
  clear q
  go_wp2_with fail
  refine (XC.works Q.out).mono ?_
  rintro e w22 ⟨rfl, q⟩
  have Q := Lib.hid q
  clear q
  go_wp2_with fail
  go_ret
  exact ⟨rfl, Q.out.below⟩

theorem walk (s : ByteArray) (w : World) (L : Lay w) (hs : s.size ≤ maxLen) :
    Calls Tryz.prog 6 #[.string s] w fun e w' => e = .returned (.bool true) ∧ Below w.heap.size w w' := by
  unfold maxLen at hs
  by_cases h : 500 < s.size
  · have W := Lib.hid (works_any w L)
    clear L
    have t : decide ((500 : Int) < (s.size : Int)) = true := by rw [decide_eq_true_iff]; omega
    go_enter Tryz.func6, Tryz.ntmps6
    go_wp2_with (go_at_call 12; refine W.out.mono ?_; rintro e w1 ⟨rfl, hb⟩; have HB := Lib.hid hb; clear hb)
    go_ret
    exact ⟨rfl, HB.out⟩
  · obtain ⟨⟨x, a, e⟩, hp⟩ : ∃ r, Exp.parse s.data.toList = r := ⟨_, rfl⟩
    have res := Exp.parse_res s.data.toList
    rw [hp] at res
    rcases res with ⟨h0, h1, hok⟩ | ⟨h0, h1, h2⟩
    · simp only at h0 h1
      subst h0 h1
      exact walk_good s w L (by omega) x hp hok
    · exact walk_bad s w L (by omega) x a e hp h0 h1 h2

set_option maxRecDepth 100000 in
theorem lifted (os : Os) (started : os.Started) (H : Type) (enc : TypeId × Value → H) :
    ReturnsInHanded {} Tryz.checked os 6 .any (fun w args => (Rows.exprNormalSpec.pre enc Tryz.prog Tryz.f6 [] false w args ∧ laidMetH Tryz.prog Rows.exprNormalRow.laid w) ∧ sizedMet enc Tryz.prog Tryz.f6 (OpenSpec.ofChange Rows.exprNormalSpec) false w args)
      (Rows.exprNormalSpec.post enc Tryz.prog Tryz.f6 false true false false) := by
  refine returnsInHanded_of_change_and (C := Tryz.checked) (X := fun w _ => laidMetH Tryz.prog Rows.exprNormalRow.laid w) (fun _ _ _ hh h => h.of_heap hh) own started (by kernel_rfl) Tryz.func6
    (ChangeSpec.witness_shaped (enc := enc) (C := Tryz.checked) (os := os) (X := fun w _ => laidMetH Tryz.prog Rows.exprNormalRow.laid w) false (World.laidAll Tryz.prog os Rows.exprNormalRow.laid) #[.string ⟨#[]⟩] 8 (World.laidAll_os _ _ _) (World.shaped_of_ZipB (by kernel_rfl) (by kernel_rfl)) (by kernel_rfl) (by kernel_rfl) (by kernel_rfl) (by rw [MakeChecks.laidMetH_plain _ _ _ (by kernel_rfl)]; exact laidMet_laidAll _ (by kernel_rfl) (by kernel_rfl))) ?_
  intro W base args ds gs before hval0 hW _ _ hL _
  have hval : ∀ (j : Nat) t v, Tryz.f6.params[j]? = some t → args[j]? = some v → Value.okWide Tryz.prog W .any base t v := hval0
  have hW' := hW
  obtain ⟨p, q, hA0, hV, rfl, hfz, hnd⟩ := hW
  have hA : DataW.TrodAll enc Tryz.prog W 0 (fun _ => true) true Tryz.f6.params.toList args.toList ds p := hA0
  rw [Tryz.params6] at hA hval
  obtain ⟨v0, vs0, d0, ds0, p0, q0, hargs, rfl, rfl, h0, r0⟩ := trodAll_cons hA
  obtain ⟨rfl, rfl, rfl⟩ := trodAll_nil r0
  obtain rfl : args = #[v0] := by cases args; simp_all
  obtain ⟨rfl, rfl⟩ := trodVars_none hV
  obtain ⟨a0, rfl, rfl, rfl, w0⟩ := open_string Tryz.underlying9 (hval 0 9 v0 rfl rfl) h0
  clear hA0 hval0
  refine (walk a0 W (lay_of _ W (by kernel_rfl) (.tail _ (.head _)) (by kernel_rfl) hL) w0).mono fun e W' ⟨he, bel⟩ => ?_
  subst he
  exact ⟨_, rfl, _, _, _, [], _, [], hW', trodAll_mk1 (shut_bool Tryz.underlying4 _), (trodAll_cons_mk (shut_string Tryz.underlying9 w0) trodAll_mk0), rfl, bel.frame _, fun h => by cases h⟩

theorem row_holds : Rows.ExprNormalSaid :=
  OpenClaim.holds_of_wide 6 Tryz.f6 rfl rfl rfl rfl rfl rfl rfl ⟨rfl, rfl, rfl, rfl, rfl⟩ rfl rfl rfl rfl rfl (by kernel_rfl) Tryz.func6 (by kernel_rfl)
    (of_decide_eq_true (by kernel_rfl)) (by unfold Func.isWrapper; first | (rw [if_pos (by decide +kernel)]; kernel_rfl) | (rw [if_neg (by decide +kernel)]; exact ⟨rfl, rfl⟩))
    (fun os started H enc _ => lifted os started H enc)

theorem proved : Rows.ExprNormalCardSaid :=
  Claim7.holds_tied_plain_at .later [] Rows.exprNormalCard.laidKinds true Rows.exprNormalCard.stood.harness Rows.exprNormalCard.stood.looks
    row_holds (fun _ h => by cases h) (by kernel_rfl) (fun _ h => by cases h) exprNormal_row_tie rfl ⟨rfl, rfl⟩ (by kernel_rfl) rfl
    (fun f fn hf hfn => by
      obtain rfl : f = 6 := Option.some.inj ((show Tryz.prog.funcNamed Rows.exprNormalRow.func = some 6 by kernel_rfl).symm.trans hf) |>.symm
      obtain rfl : fn = Tryz.f6 := (Option.some.inj (Tryz.func6.symm.trans hfn)).symm
      exact ⟨looks0, fun j t ht => by
        rw [Tryz.params6] at ht
        have hm : t ∈ [9] := by simpa using Array.mem_of_getElem? ht
        have hall : ([9].all fun u => !Tryz.prog.wantsStandIn u) = true := by kernel_rfl
        exact (show Tryz.prog.wantsStandIn t = false by simpa using List.all_eq_true.1 hall t hm)⟩)
    (by kernel_rfl)
end Go.Proofs.YtpnfifhanmpapaaGreatDoor.exprNormal
