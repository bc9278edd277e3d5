/- For all bytes 'which' and texts s, FieldNormal returns true: a normal field is that of the same set and star, and its own normal field; an error comes with the empty set and a place within the text (longer texts than 300 bytes are not asked). Conditions: the variables of Go's library that the row lists start as the program's text lays them (tied). -/
import Derived.Test.YtlmbfhbfejjpdaaDoorFldLaid
import Derived.Test.YtlmbfhbfejjpdaaDoorFldX
namespace Go.Proofs.YtlmbfhbfejjpdaaDoor.fieldNormal
open Go.ChangeShapes Go.WideShapes Go.ChangeAt Go.RowKit Go.ChangeMaps

set_option maxRecDepth 100000 in
set_option maxHeartbeats 2000000 in
theorem walk (u : Int) (s : ByteArray) (w : World) (L : Lay w) (hu : (Lit.int .u8 u).wf = true) (hs : s.size ≤ maxLen) :
    Calls Tryd.prog 5 #[.int .u8 u, .string s] w fun e w' => e = .returned (.bool true) ∧ Below w.heap.size w w' := by
  unfold maxLen at hs
  obtain ⟨U, rfl, hU⟩ := nat_u8 hu
  obtain ⟨i, hi⟩ : ∃ i, i = U % 6 := ⟨_, rfl⟩
  have i6 : i < 6 := by omega
  have O := kd6_ok i i6
  obtain ⟨F0, F1⟩ := six_full i i6
  have SX := Lib.hid (fun w => six_any U hU i hi w)
  have LL := Lib.hid L
  by_cases hl : 300 < s.size
  · have tl : decide ((300 : Int) < (s.size : Int)) = true := by rw [decide_eq_true_iff]; omega
    clear L hi
    go_enter Tryd.func5, Tryd.ntmps5
    go_wp2_with fail
    refine (SX.out _).mono ?_
    rintro e w1 ⟨v, rfl, hb, hv⟩
    have X := Lib.hid (Ctx.first LL.out hb hv)
    obtain ⟨A, cap, rfl, _, _⟩ := hv
    clear hb
    go_wp2_with fail
    refine (works_any _ X.out.lay).mono ?_
    rintro e w2 ⟨rfl, hb⟩
    have X := Lib.hid (X.out.next hb)
    clear hb
    go_wp2_with fail
    go_ret
    exact ⟨rfl, X.out.below⟩
  · have tl : decide ((300 : Int) < (s.size : Int)) = false := by rw [decide_eq_false_iff_not]; omega
    have hs2 : s.size ≤ 9223372036854775000 := by omega
    have hlen := Lib.size_eq s
    obtain ⟨P, hP⟩ : ∃ P, Fld.parse (kd6 i) s.data.toList = P := ⟨_, rfl⟩
    obtain ⟨S, star, a, e⟩ := P
    have hlt := parse_lt O s.data.toList
    have A1 := Lib.hid (fun v w hv => parse_at i6 v s w hv hs2 hP)
    by_cases he : e = 0
    · subst he
      have hz : (Fld.parse (kd6 i) s.data.toList).2.2.2 = 0 := by rw [hP]
      obtain ⟨g1, g2, g3, g4, _⟩ := Fld.parse_good O s.data.toList hz
      have hn := Fld.norm_form O s.data.toList hz
      have hr := Fld.norm_read O s.data.toList hz
      have hnn := Fld.norm_norm O s.data.toList hz
      have nlen : (normR (kd6 i) s.data.toList).1.length ≤ 600 := by
        rw [hn]
        show (if _ then [42] else txt _).length ≤ 600
        split
        · exact (by decide : 1 ≤ 600)
        · exact txt_len _
      rw [hP] at g1 g2 g3 g4 hlt hr
      simp only at g1 g2 g3 g4 hlt hr
      subst g4
      have e1 : normR (kd6 i) s.data.toList = ((normR (kd6 i) s.data.toList).1, 0, 0) := by rw [hn]
      obtain ⟨T, hT⟩ : ∃ T : ByteArray, T = ⟨(normR (kd6 i) s.data.toList).1.toArray⟩ := ⟨_, rfl⟩
      have hTl : T.data.toList = (normR (kd6 i) s.data.toList).1 := by rw [hT]
      have hsz : T.size ≤ 9223372036854775000 := by rw [Lib.size_eq, hTl]; omega
      rw [← hTl] at e1 hr hnn
      have A2 := Lib.hid (fun v w L hv => normal_at i6 v s w L hv hs2 e1)
      have A3 := Lib.hid (fun v w hv => parse_at i6 v T w hv hsz hr)
      have A4 := Lib.hid (fun v w L hv => normal_at i6 v T w L hv hsz hnn)
      have t0 : ((S : Int) != 0) = true := by rw [bne_iff_ne]; omega
      have t1 : (S != 0) = true := by rw [bne_iff_ne]; omega
      have ea : bits .andNot .u64 (S : Int) (fullK (kd6 i) : Nat) = ((S &&& (18446744073709551615 - fullK (kd6 i)) : Nat) : Int) := u64_andNot_nat S _ hlt F1
      rw [(sub_iff hlt F1).2 (Fld.sub_full O g2)] at ea
      obtain ⟨st1, st2⟩ := is_star s star g3.symm
      clear hn hnn hr hT hTl hz g2 g3 e1 nlen hP O L hi hlen
      generalize fullK (kd6 i) = F at *
      cases star
      all_goals
        go_enter Tryd.func5, Tryd.ntmps5
        go_wp2_with fail
        refine (SX.out _).mono ?_
        rintro e w1 ⟨v, rfl, hb, hv⟩
        have X := Lib.hid (Ctx.first LL.out hb hv)
        obtain ⟨A, cap, rfl, _, _⟩ := hv
        clear hb
        go_wp2_with fail
        refine (A1.out _ _ X.out.strs).mono ?_
        rintro e w2 ⟨rfl, hb⟩
        have X := Lib.hid (X.out.next hb)
        obtain ⟨_, _, _, _, c0, c1, c2, c3⟩ := X.out
        clear hb
        go_wp2_with fail
        refine (A2.out _ _ X.out.lay X.out.strs).mono ?_
        rintro e w3 ⟨rfl, hb⟩
        have X := Lib.hid (X.out.next hb)
        obtain ⟨_, _, _, _, c0, c1, c2, c3⟩ := X.out
        clear hb
        go_wp2_with fail
        refine (A3.out _ _ X.out.strs).mono ?_
        rintro e w4 ⟨rfl, hb⟩
        have X := Lib.hid (X.out.next hb)
        obtain ⟨_, _, _, _, c0, c1, c2, c3⟩ := X.out
        clear hb
        go_wp2_with fail
        refine (A4.out _ _ X.out.lay X.out.strs).mono ?_
        rintro e w5 ⟨rfl, hb⟩
        have X := Lib.hid (X.out.next hb)
        obtain ⟨_, _, _, _, c0, c1, c2, c3⟩ := X.out
        clear hb
        go_wp2_with fail
        refine (works_any _ X.out.lay).mono ?_
        rintro e w6 ⟨rfl, hb⟩
        have X := Lib.hid (X.out.next hb)
        clear hb
        go_wp2_with fail
        go_ret
        exact ⟨rfl, X.out.below⟩
    · have hz : (Fld.parse (kd6 i) s.data.toList).2.2.2 ≠ 0 := by rw [hP]; exact he
      obtain ⟨g1, g2, g3, g4⟩ := Fld.parse_bad s.data.toList hz
      have hn := Fld.norm_bad s.data.toList hz
      rw [hP] at g1 g2 g3 g4 hn
      simp only at g1 g2 g3 g4 hn
      subst g1 g2
      have A2 := Lib.hid (fun v w L hv => normal_at i6 v s w L hv hs2 (t := ⟨#[]⟩) hn)
      have u0 : decide ((a : Int) ≤ (s.size : Int)) = true := by rw [decide_eq_true_iff]; omega
      have u1 : decide (a ≤ s.size) = true := by rw [decide_eq_true_iff]; omega
      clear hn hz hP O L hi hlt
      rcases g4 with rfl | ⟨rfl, g4⟩
      · clear g3 hlen hs hs2 hl he
        go_enter Tryd.func5, Tryd.ntmps5
        go_wp2_with fail
        refine (SX.out _).mono ?_
        rintro e w1 ⟨v, rfl, hb, hv⟩
        have X := Lib.hid (Ctx.first LL.out hb hv)
        obtain ⟨A, cap, rfl, _, _⟩ := hv
        clear hb
        go_wp2_with fail
        refine (A1.out _ _ X.out.strs).mono ?_
        rintro e w2 ⟨rfl, hb⟩
        have X := Lib.hid (X.out.next hb)
        obtain ⟨_, _, _, _, c0, c1, c2, c3⟩ := X.out
        clear hb
        go_wp2_with fail
        refine (A2.out _ _ X.out.lay X.out.strs).mono ?_
        rintro e w3 ⟨rfl, hb⟩
        have X := Lib.hid (X.out.next hb)
        obtain ⟨_, _, _, _, c0, c1, c2, c3⟩ := X.out
        clear hb
        go_wp2_with fail
        refine (works_any _ X.out.lay).mono ?_
        rintro e w4 ⟨rfl, hb⟩
        have X := Lib.hid (X.out.next hb)
        clear hb
        go_wp2_with fail
        go_ret
        exact ⟨rfl, X.out.below⟩
      · have u2 : decide ((a : Int) < (s.size : Int)) = true := by rw [decide_eq_true_iff]; omega
        have u3 : decide (a < s.size) = true := by rw [decide_eq_true_iff]; omega
        clear g3 g4 hlen hs hs2 hl he
        go_enter Tryd.func5, Tryd.ntmps5
        go_wp2_with fail
        refine (SX.out _).mono ?_
        rintro e w1 ⟨v, rfl, hb, hv⟩
        have X := Lib.hid (Ctx.first LL.out hb hv)
        obtain ⟨A, cap, rfl, _, _⟩ := hv
        clear hb
        go_wp2_with fail
        refine (A1.out _ _ X.out.strs).mono ?_
        rintro e w2 ⟨rfl, hb⟩
        have X := Lib.hid (X.out.next hb)
        obtain ⟨_, _, _, _, c0, c1, c2, c3⟩ := X.out
        clear hb
        go_wp2_with fail
        refine (A2.out _ _ X.out.lay X.out.strs).mono ?_
        rintro e w3 ⟨rfl, hb⟩
        have X := Lib.hid (X.out.next hb)
        obtain ⟨_, _, _, _, c0, c1, c2, c3⟩ := X.out
        clear hb
        go_wp2_with fail
        refine (works_any _ X.out.lay).mono ?_
        rintro e w4 ⟨rfl, hb⟩
        have X := Lib.hid (X.out.next hb)
        clear hb
        go_wp2_with fail
        go_ret
        exact ⟨rfl, X.out.below⟩

set_option maxRecDepth 100000 in
theorem lifted (os : Os) (started : os.Started) (H : Type) (enc : TypeId × Value → H) :
    ReturnsInHanded {} Tryd.checked os 5 .any (fun w args => (Rows.fieldNormalSpec.pre enc Tryd.prog Tryd.f5 [] false w args ∧ laidMetH Tryd.prog Rows.fieldNormalRow.laid w) ∧ sizedMet enc Tryd.prog Tryd.f5 (OpenSpec.ofChange Rows.fieldNormalSpec) false w args)
      (Rows.fieldNormalSpec.post enc Tryd.prog Tryd.f5 false true false false) := by
  refine returnsInHanded_of_change_and (C := Tryd.checked) (X := fun w _ => laidMetH Tryd.prog Rows.fieldNormalRow.laid w) (fun _ _ _ hh h => h.of_heap hh) own started (by kernel_rfl) Tryd.func5
    (ChangeSpec.witness_shaped (enc := enc) (C := Tryd.checked) (os := os) (X := fun w _ => laidMetH Tryd.prog Rows.fieldNormalRow.laid w) false (World.laidAll Tryd.prog os Rows.fieldNormalRow.laid) #[.int .u8 0, .string ⟨#[]⟩] 8 (World.laidAll_os _ _ _) (World.shaped_of_ZipB (by kernel_rfl) (by kernel_rfl)) (by kernel_rfl) (by kernel_rfl) (by kernel_rfl) (by rw [MakeChecks.laidMetH_plain _ _ _ (by kernel_rfl)]; exact laidMet_laidAll _ (by kernel_rfl) (by kernel_rfl))) ?_
  intro W base args ds gs before hval0 hW _ _ hL _
  have hval : ∀ (j : Nat) t v, Tryd.f5.params[j]? = some t → args[j]? = some v → Value.okWide Tryd.prog W .any base t v := hval0
  have hW' := hW
  obtain ⟨p, q, hA0, hV, rfl, hfz, hnd⟩ := hW
  have hA : DataW.TrodAll enc Tryd.prog W 0 (fun _ => true) true Tryd.f5.params.toList args.toList ds p := hA0
  rw [Tryd.params5] at hA hval
  obtain ⟨v0, vs0, d0, ds0, p0, q0, hargs, rfl, rfl, h0, r0⟩ := trodAll_cons hA
  obtain ⟨v1, vs1, d1, ds1, p1, q1, rfl, rfl, rfl, h1, r1⟩ := trodAll_cons r0
  obtain ⟨rfl, rfl, rfl⟩ := trodAll_nil r1
  obtain rfl : args = #[v0, v1] := by cases args; simp_all
  obtain ⟨rfl, rfl⟩ := trodVars_none hV
  obtain ⟨a0, rfl, rfl, rfl, w0⟩ := open_int Tryd.underlying5 (hval 0 5 v0 rfl rfl) h0
  obtain ⟨a1, rfl, rfl, rfl, w1⟩ := open_string Tryd.underlying9 (hval 1 9 v1 rfl rfl) h1
  clear hA0 hval0
  refine (walk a0 a1 W (lay_of _ W (by kernel_rfl) (.tail _ (.head _)) (by kernel_rfl) hL) w0 w1).mono fun e W' ⟨he, bel⟩ => ?_
  subst he
  exact ⟨_, rfl, _, _, _, [], _, [], hW', trodAll_mk1 (shut_bool Tryd.underlying4 _), (trodAll_cons_mk (shut_int Tryd.underlying5 w0) (trodAll_cons_mk (shut_string Tryd.underlying9 w1) trodAll_mk0)), rfl, bel.frame _, fun h => by cases h⟩

theorem row_holds : Rows.FieldNormalSaid :=
  OpenClaim.holds_of_wide 5 Tryd.f5 rfl rfl rfl rfl rfl rfl rfl ⟨rfl, rfl, rfl, rfl, rfl⟩ rfl rfl rfl rfl rfl (by kernel_rfl) Tryd.func5 (by kernel_rfl)
    (of_decide_eq_true (by kernel_rfl)) (by unfold Func.isWrapper; first | (rw [if_pos (by decide +kernel)]; kernel_rfl) | (rw [if_neg (by decide +kernel)]; exact ⟨rfl, rfl⟩))
    (fun os started H enc _ => lifted os started H enc)

theorem proved : Rows.FieldNormalCardSaid :=
  Claim7.holds_tied_plain_at .later [] Rows.fieldNormalCard.laidKinds true Rows.fieldNormalCard.stood.harness Rows.fieldNormalCard.stood.looks
    row_holds (fun _ h => by cases h) (by kernel_rfl) (fun _ h => by cases h) fieldNormal_row_tie rfl ⟨rfl, rfl⟩ (by kernel_rfl) rfl
    (fun f fn hf hfn => by
      obtain rfl : f = 5 := Option.some.inj ((show Tryd.prog.funcNamed Rows.fieldNormalRow.func = some 5 by kernel_rfl).symm.trans hf) |>.symm
      obtain rfl : fn = Tryd.f5 := (Option.some.inj (Tryd.func5.symm.trans hfn)).symm
      exact ⟨looks0, fun j t ht => by
        rw [Tryd.params5] at ht
        have hm : t ∈ [5, 9] := by simpa using Array.mem_of_getElem? ht
        have hall : ([5, 9].all fun u => !Tryd.prog.wantsStandIn u) = true := by kernel_rfl
        exact (show Tryd.prog.wantsStandIn t = false by simpa using List.all_eq_true.1 hall t hm)⟩)
    (by kernel_rfl)
end Go.Proofs.YtlmbfhbfejjpdaaDoor.fieldNormal
