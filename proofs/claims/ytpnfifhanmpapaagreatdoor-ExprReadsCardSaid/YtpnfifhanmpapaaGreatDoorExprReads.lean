/- For every text, ExprReads returns true: what a text of at most 500 bytes is read as, where it is wrong, and its normal text, is as the document says. Condition: the program's tables start as its text lays them (tied). -/
import Derived.Test.YtpnfifhanmpapaaGreatDoorMExpG
import Derived.Test.YtpnfifhanmpapaaGreatDoorExpRg
namespace Go.Proofs.YtpnfifhanmpapaaGreatDoor.exprReads
open Go.ChangeShapes Go.WideShapes Go.ChangeAt Go.RowKit Go.ChangeMaps

theorem two_b {w W : World} {l : List (Nat × Exp.Ex)} (h : XC w l W) {B C : Nat} {x y : Exp.Ex} (h1 : (B, x) ∈ l) (h2 : (C, y) ∈ l) : Row W B 25 (exL x) ∧ Row W C 25 (exL y) := ⟨h.rows _ h1, h.rows _ h2⟩

set_option linter.unusedSimpArgs false in
set_option maxRecDepth 100000 in
set_option maxHeartbeats 16000000 in
theorem walk (s : ByteArray) (w : World) (L : Lay w) (hw : s.size ≤ maxLen) :
    Calls Tryz.prog 3 #[.string s] w fun e w' => e = .returned (.bool true) ∧ Below w.heap.size w w' := by
  have hm : s.size ≤ 9223372036854775807 := by unfold maxLen at hw; omega
  have XX := Lib.hid (XC.start L)
  by_cases h5 : 500 < s.size
  · have q1 : decide (500 < (s.size : Int)) = true := by rw [decide_eq_true_iff]; omega
    have q1n : decide (500 < s.size) = true := by rw [decide_eq_true_iff]; omega
    clear hw L
    go_enter Tryz.func3, Tryz.ntmps3
    go_wp2_with fail
    refine (XC.works XX.out).mono ?_
    rintro e' w1 ⟨rfl, q⟩
    have Q := Lib.hid q.below
    clear q
    go_wp2_with fail
    go_ret
    exact ⟨rfl, Q.out⟩
  have q1 : decide (500 < (s.size : Int)) = false := by rw [decide_eq_false_iff_not]; omega
  have q1n : decide (500 < s.size) = false := by rw [decide_eq_false_iff_not]; omega
  obtain ⟨⟨x, a, e⟩, hp⟩ : ∃ r, Exp.parse s.data.toList = r := ⟨_, rfl⟩
  obtain ⟨⟨t0, b, g⟩, hn⟩ : ∃ r, Exp.norm s.data.toList = r := ⟨_, rfl⟩
  obtain ⟨⟨m, is⟩, hmr⟩ : ∃ r, Exp.macR s.data.toList = r := ⟨_, rfl⟩
  obtain ⟨t, ht⟩ : ∃ t : ByteArray, (⟨t0.toArray⟩ : ByteArray) = t := ⟨_, rfl⟩
  have P1 := Lib.hid (fun (W : World) => parse_any s (by omega) x a e hp W)
  have P2 := Lib.hid (fun (W : World) => parse7_any s (by omega) x a e hp W)
  have N1 := fun (W : World) (l : Lay W) => normal_any s (by omega) t0 b g hn W l
  have N2 := fun (W : World) => normal7_any s (by omega) t0 b g hn W
  rw [ht] at N1 N2
  have N1 := Lib.hid N1
  have N2 := Lib.hid N2
  have M1 := Lib.hid (fun (W : World) => macro_any s (by omega) W m is hmr)
  have M2 := Lib.hid (fun (W : World) => macro7_any s m is hmr W)
  have sx := same8_t x
  have sm := same8_t m
  clear hw L h5 hp hn hmr ht
  go_enter Tryz.func3, Tryz.ntmps3
  go_wp2_with fail
  refine (P1.out _).mono ?_
  rintro e' w1 ⟨rfl, hb⟩
  obtain ⟨B, hB⟩ : ∃ B, w1.heap.size = B := ⟨_, rfl⟩
  have Q1 := (XX.out.next hb).box x
  rw [hB] at Q1
  have Q := Lib.hid Q1
  clear Q1 hb
  go_wp2_with fail
  try rw [hB]
  refine (P2.out _).mono ?_
  rintro e' w2 ⟨rfl, hb⟩
  obtain ⟨C, hC⟩ : ∃ C, w2.heap.size = C := ⟨_, rfl⟩
  have Q1 := (Q.out.next hb).box x
  rw [hC] at Q1
  have Q := Lib.hid Q1
  clear Q1 hb hB
  go_wp2_with fail
  try rw [hC]
  refine (N1.out _ Q.out.lay).mono ?_
  rintro e' w3 ⟨rfl, hb⟩
  have Q := Lib.hid (Q.out.next hb)
  clear hb hC
  go_wp2_with fail
  refine (N2.out _).mono ?_
  rintro e' w4 ⟨rfl, hb⟩
  have Q := Lib.hid (Q.out.next hb)
  clear hb
  go_wp2_with fail
  refine (M1.out _).mono ?_
  rintro e' w5 ⟨rfl, hb⟩
  obtain ⟨D, hD⟩ : ∃ D, w5.heap.size = D := ⟨_, rfl⟩
  have Q1 := (Q.out.next hb).box m
  rw [hD] at Q1
  have Q := Lib.hid Q1
  clear Q1 hb
  go_wp2_with fail
  try rw [hD]
  refine (M2.out _).mono ?_
  rintro e' w6 ⟨rfl, hb⟩
  have Q6 := Q.out.next hb
  obtain ⟨c0, c1, c2, c3, c4, c5, c6, c7⟩ := Q6.cells B x (by simp)
  obtain ⟨d0, d1, d2, d3, d4, d5, d6, d7⟩ := Q6.cells C x (by simp)
  obtain ⟨u0, u1, u2, u3, u4, u5, u6, u7⟩ := Q6.cells D m (by simp)
  have nb1 := (Q6.rows (B, x) (by simp)).lt
  have nb2 := (Q6.rows (C, x) (by simp)).lt
  have nb3 := (Q6.rows (D, m) (by simp)).lt
  simp only at nb1 nb2 nb3
  have m1 : B ≠ w6.heap.size := by omega
  have m2 : w6.heap.size ≠ B := by omega
  have m3 : C ≠ w6.heap.size := by omega
  have m4 : w6.heap.size ≠ C := by omega
  have m5 : D ≠ w6.heap.size := by omega
  have m6 : w6.heap.size ≠ D := by omega
  have Q1 := Q6.box m
  obtain ⟨C0, C1, C2, C3, C4, C5, C6, C7⟩ := Q1.cells B x (by simp)
  obtain ⟨D0, D1, D2, D3, D4, D5, D6, D7⟩ := Q1.cells C x (by simp)
  obtain ⟨U0, U1, U2, U3, U4, U5, U6, U7⟩ := Q1.cells D m (by simp)
  obtain ⟨V0, V1, V2, V3, V4, V5, V6, V7⟩ := Q1.cells w6.heap.size m (by simp)
  have Q := Lib.hid Q1
  clear Q1 Q6 hb hD nb1 nb2 nb3 P1 P2 N1 N2 M1 M2
  go_wp2_with fail
  refine (XC.works Q.out).mono ?_
  rintro e' w7 ⟨rfl, q⟩
  have Q := Lib.hid q.below
  clear q
  go_wp2_with fail
  go_ret
  exact ⟨rfl, Q.out⟩

set_option maxRecDepth 100000 in
theorem lifted (os : Os) (started : os.Started) (H : Type) (enc : TypeId × Value → H) :
    ReturnsInHanded {} Tryz.checked os 3 .any (fun w args => (Rows.exprReadsSpec.pre enc Tryz.prog Tryz.f3 [] false w args ∧ laidMetH Tryz.prog Rows.exprReadsRow.laid w) ∧ sizedMet enc Tryz.prog Tryz.f3 (OpenSpec.ofChange Rows.exprReadsSpec) false w args)
      (Rows.exprReadsSpec.post enc Tryz.prog Tryz.f3 false true false false) := by
  refine returnsInHanded_of_change_and (C := Tryz.checked) (X := fun w _ => laidMetH Tryz.prog Rows.exprReadsRow.laid w) (fun _ _ _ hh h => h.of_heap hh) own started (by kernel_rfl) Tryz.func3
    (ChangeSpec.witness_shaped (enc := enc) (C := Tryz.checked) (os := os) (X := fun w _ => laidMetH Tryz.prog Rows.exprReadsRow.laid w) false (World.laidAll Tryz.prog os Rows.exprReadsRow.laid) #[.string ⟨#[]⟩] 8 (World.laidAll_os _ _ _) (World.shaped_of_ZipB (by kernel_rfl) (by kernel_rfl)) (by kernel_rfl) (by kernel_rfl) (by kernel_rfl) (by rw [MakeChecks.laidMetH_plain _ _ _ (by kernel_rfl)]; exact laidMet_laidAll _ (by kernel_rfl) (by kernel_rfl))) ?_
  intro W base args ds gs before hval0 hW _ _ hL _
  have hval : ∀ (j : Nat) t v, Tryz.f3.params[j]? = some t → args[j]? = some v → Value.okWide Tryz.prog W .any base t v := hval0
  have hW' := hW
  obtain ⟨p, q, hA0, hV, rfl, hfz, hnd⟩ := hW
  have hA : DataW.TrodAll enc Tryz.prog W 0 (fun _ => true) true Tryz.f3.params.toList args.toList ds p := hA0
  rw [Tryz.params3] at hA hval
  obtain ⟨v0, vs0, d0, ds0, p0, q0, hargs, rfl, rfl, h0, r0⟩ := trodAll_cons hA
  obtain ⟨rfl, rfl, rfl⟩ := trodAll_nil r0
  obtain rfl : args = #[v0] := by cases args; simp_all
  obtain ⟨rfl, rfl⟩ := trodVars_none hV
  obtain ⟨a0, rfl, rfl, rfl, w0⟩ := open_string Tryz.underlying9 (hval 0 9 v0 rfl rfl) h0
  clear hA0 hval0
  refine (walk a0 W (lay_of _ W (by kernel_rfl) (.tail _ (.head _)) (by kernel_rfl) hL) w0).mono fun e W' ⟨he, bel⟩ => ?_
  subst he
  exact ⟨_, rfl, _, _, _, [], _, [], hW', trodAll_mk1 (shut_bool Tryz.underlying4 _), (trodAll_cons_mk (shut_string Tryz.underlying9 w0) trodAll_mk0), rfl, bel.frame _, fun h => by cases h⟩

theorem row_holds : Rows.ExprReadsSaid :=
  OpenClaim.holds_of_wide 3 Tryz.f3 rfl rfl rfl rfl rfl rfl rfl ⟨rfl, rfl, rfl, rfl, rfl⟩ rfl rfl rfl rfl rfl (by kernel_rfl) Tryz.func3 (by kernel_rfl)
    (of_decide_eq_true (by kernel_rfl)) (by unfold Func.isWrapper; first | (rw [if_pos (by decide +kernel)]; kernel_rfl) | (rw [if_neg (by decide +kernel)]; exact ⟨rfl, rfl⟩))
    (fun os started H enc _ => lifted os started H enc)

theorem proved : Rows.ExprReadsCardSaid :=
  Claim7.holds_tied_plain_at .later [] Rows.exprReadsCard.laidKinds true Rows.exprReadsCard.stood.harness Rows.exprReadsCard.stood.looks
    row_holds (fun _ h => by cases h) (by kernel_rfl) (fun _ h => by cases h) exprReads_row_tie rfl ⟨rfl, rfl⟩ (by kernel_rfl) rfl
    (fun f fn hf hfn => by
      obtain rfl : f = 3 := Option.some.inj ((show Tryz.prog.funcNamed Rows.exprReadsRow.func = some 3 by kernel_rfl).symm.trans hf) |>.symm
      obtain rfl : fn = Tryz.f3 := (Option.some.inj (Tryz.func3.symm.trans hfn)).symm
      exact ⟨looks0, fun j t ht => by
        rw [Tryz.params3] at ht
        have hm : t ∈ [9] := by simpa using Array.mem_of_getElem? ht
        have hall : ([9].all fun u => !Tryz.prog.wantsStandIn u) = true := by kernel_rfl
        exact (show Tryz.prog.wantsStandIn t = false by simpa using List.all_eq_true.1 hall t hm)⟩)
    (by kernel_rfl)
end Go.Proofs.YtpnfifhanmpapaaGreatDoor.exprReads
