/- For all numbers n and texts s, LexDigits returns true: a number is read from its digits; what is read as a number are its digits; with a zero or a plus before it, a blank behind it, or one more digit before the longest numbers, it is none (texts of more than 300 bytes are not asked). Conditions: strconv's table of the powers of ten and its errors start as the program's text lays them (tied). -/
import Derived.Test.YtjlipkklljjdjaaDoorLexLaid
import Derived.ChangeMaps5
import Derived.Test.YtjlipkklljjdjaaDoorLexDg
namespace Go.Proofs.YtjlipkklljjdjaaDoor.lexDigits
open Go.ChangeShapes Go.WideShapes Go.ChangeAt Go.RowKit Go.ChangeMaps

theorem six_of (T : ByteArray) (hne : T.data.toList ≠ []) : ∀ x ∈ [⟨#[48]⟩ ++ T, ⟨#[43]⟩ ++ T, T ++ ⟨#[32]⟩, ⟨#[32]⟩ ++ T, ⟨#[45, 45]⟩ ++ T, T ++ ⟨#[46]⟩], NumIs x.data.toList 0 10 := by
  have tail : ∀ c : UInt8, c ∈ (T.data.toList ++ [c]).drop 1 := fun c => by
    cases h : T.data.toList with
    | nil => exact (hne h).elim
    | cons a r => simp
  intro x hx
  simp only [List.mem_cons, List.not_mem_nil, or_false] at hx
  rcases hx with rfl | rfl | rfl | rfl | rfl | rfl
  · have := zero_dec T.data.toList hne
    simpa using this
  · exact not_dec (c := 43) (.inr ⟨by simp, by decide⟩) (by decide)
  · exact not_dec (c := 32) (.inl (by simpa using tail 32)) (by decide)
  · exact not_dec (c := 32) (.inr ⟨by simp, by decide⟩) (by decide)
  · exact not_dec (c := 45) (.inl (by simp)) (by decide)
  · exact not_dec (c := 46) (.inl (by simpa using tail 46)) (by decide)
set_option maxRecDepth 100000 in
set_option maxHeartbeats 2000000 in
theorem walk (n : Int) (s : ByteArray) (w : World) (L : Lay w) (hn : (Lit.int .i64 n).wf = true) (hs : s.size ≤ maxLen) :
    Calls Tryd.prog 13 #[.int .i64 n, .string s] w fun e w' => e = .returned (.bool true) ∧ Below w.heap.size w w' := by
  unfold maxLen at hs
  obtain ⟨n0, n1⟩ := int_i64 hn
  have LL := Lib.hid L
  clear L hn
  have DA := Lib.hid (fun w L => digits_any n n0 n1 w L)
  have hTl : (numStr n).data.toList = Lib.itoa n := rfl
  have NT := num_itoa n n0 n1
  have hne : Lib.itoa n ≠ [] := by
    unfold Lib.itoa
    split
    · simp
    · exact Num.dec_ne _
  have hsz : (numStr n).size ≤ 20 := by
    rw [Lib.size_eq, hTl]
    unfold Lib.itoa
    split
    · have := Num.dec_len n.natAbs (by omega); simp; omega
    · have := Num.dec_len n.toNat (by omega); omega
  have hdl : Num.Dg (dl (numStr n).data.toList) := dl_itoa n
  rw [← hTl] at NT hne
  generalize numStr n = T at *
  have SIX := Lib.hid (six_of T hne)
  have NA := Lib.hid (fun w L => number_any T (by omega) n 0 NT w L)
  have HDL := Lib.hid hdl
  clear hTl NT hne hdl
  by_cases h : 300 < s.size
  · have t : decide ((300 : Int) < (s.size : Int)) = true := by rw [decide_eq_true_iff]; omega
    go_enter Tryd.func13, Tryd.ntmps13
    go_wp2_with fail
    refine (DA.out w LL.out).mono ?_
    rintro e w1 ⟨rfl, hb⟩
    have H1 := Lib.hid hb
    clear hb
    go_wp2_with fail
    refine (NA.out w1 (LL.out.below H1.out)).mono ?_
    rintro e w2 ⟨rfl, hb⟩
    have H2 := Lib.hid (H1.out.trans (hb.mono H1.out.size))
    clear hb
    go_wp2_with fail
    refine (works_any _ (LL.out.below H2.out)).mono ?_
    rintro e w3 ⟨rfl, hb⟩
    have HB := Lib.hid (H2.out.trans (hb.mono H2.out.size))
    clear hb
    go_wp2_with fail
    go_ret
    exact ⟨rfl, HB.out⟩
  · have t : decide ((300 : Int) < (s.size : Int)) = false := by rw [decide_eq_false_iff_not]; omega
    obtain ⟨X0, hX0⟩ : ∃ X, ⟨#[48]⟩ ++ T = X := ⟨_, rfl⟩
    obtain ⟨X1, hX1⟩ : ∃ X, ⟨#[43]⟩ ++ T = X := ⟨_, rfl⟩
    obtain ⟨X2, hX2⟩ : ∃ X, T ++ ⟨#[32]⟩ = X := ⟨_, rfl⟩
    obtain ⟨X3, hX3⟩ : ∃ X, ⟨#[32]⟩ ++ T = X := ⟨_, rfl⟩
    obtain ⟨X4, hX4⟩ : ∃ X, ⟨#[45, 45]⟩ ++ T = X := ⟨_, rfl⟩
    obtain ⟨X5, hX5⟩ : ∃ X, T ++ ⟨#[46]⟩ = X := ⟨_, rfl⟩
    rw [hX0, hX1, hX2, hX3, hX4, hX5] at SIX
    have SZ : ∀ x ∈ [X0, X1, X2, X3, X4, X5], x.size ≤ 65536 := by
      intro x hx
      simp only [List.mem_cons, List.not_mem_nil, or_false] at hx
      have q : ∀ a : ByteArray, a.size ≤ 2 → (a ++ T).size ≤ 65536 ∧ (T ++ a).size ≤ 65536 := fun a ha => by rw [ByteArray.size_append, ByteArray.size_append]; omega
      rcases hx with rfl | rfl | rfl | rfl | rfl | rfl
      · rw [← hX0]; exact (q _ (by decide)).1
      · rw [← hX1]; exact (q _ (by decide)).1
      · rw [← hX2]; exact (q _ (by decide)).2
      · rw [← hX3]; exact (q _ (by decide)).1
      · rw [← hX4]; exact (q _ (by decide)).1
      · rw [← hX5]; exact (q _ (by decide)).2
    have SZ := Lib.hid SZ
    have z1 : ∀ c : UInt8, (⟨#[c]⟩ : ByteArray).size = 1 := fun _ => rfl
    have z2 : (⟨#[45, 45]⟩ : ByteArray).size = 2 := rfl
    go_enter Tryd.func13, Tryd.ntmps13
    go_wp2_with fail
    refine (DA.out w LL.out).mono ?_
    rintro e w1 ⟨rfl, hb⟩
    have H1 := Lib.hid hb
    clear hb
    go_wp2_with fail
    refine (NA.out w1 (LL.out.below H1.out)).mono ?_
    rintro e w2 ⟨rfl, hb⟩
    have H2 := Lib.hid (H1.out.trans (hb.mono H1.out.size))
    clear hb
    have hz2 := H2.out.size
    -- what is too great
    have RZ : ∀ w, Calls Tryd.prog 37 #[.string ⟨#[48]⟩, .int .i64 19] w fun e w' => e = .returned (.string ⟨(List.replicate 19 48).toArray⟩) ∧ Below w.heap.size w w' := fun w => repeat_any 48 19 (by omega) w
    have RZ := Lib.hid RZ
    obtain ⟨Z, hZ⟩ : ∃ Z : ByteArray, Z = ⟨(List.replicate 19 48).toArray⟩ := ⟨_, rfl⟩
    have zZ : Z.size = 19 := by rw [hZ]; rfl
    rw [← hZ] at RZ
    obtain ⟨Y1, hY1⟩ : ∃ Y, ⟨#[49]⟩ ++ Z = Y := ⟨_, rfl⟩
    have zY1 : Y1.size = 20 := by rw [← hY1, ByteArray.size_append, zZ]; rfl
    have TP := fun w => Tryd.strings_TrimPrefix T ⟨#[45]⟩ w
    rw [trim_dgs] at TP
    obtain ⟨D, hD⟩ : ∃ D, dgs T = D := ⟨_, rfl⟩
    have zD : D.size ≤ 20 := by
      rw [← hD]
      unfold dgs
      split
      · rw [ByteArray.size_extract]; omega
      · omega
    obtain ⟨Y2, hY2⟩ : ∃ Y, Y1 ++ D = Y := ⟨_, rfl⟩
    have zY2 : Y2.size = 20 + D.size := by rw [← hY2, ByteArray.size_append, zY1]
    have NY : NumIs Y2.data.toList 0 7 := by
      have e : Y2.data.toList = 49 :: (List.replicate 19 48 ++ dl T.data.toList) := by
        rw [← hY2, ← hY1, hZ, ← dgs_list, hD]
        simp
      rw [e]
      exact over_dec _ HDL.out
    have NO := Lib.hid (fun w L => number_any Y2 (by omega) 0 7 NY w L)
    rw [hD] at TP
    have TP := Lib.hid TP
    have HZ := Lib.hid hZ
    have HD := Lib.hid hD
    clear hZ hD NY
    -- what the text says
    obtain ⟨v, r, hv⟩ := numIs_ex s.data.toList
    have NS := Lib.hid (fun w L => number_any s (by omega) v r hv w L)
    have HV := Lib.hid hv
    have es : (s.toList == s.toList) = true := by simp
    clear hv
    go_wp2_with fail
    obtain ⟨W0, hW0⟩ : ∃ W0, w2.alloc (.cells #[.string X0, .string X1, .string X2, .string X3, .string X4, .string X5] 9) = W0 := ⟨_, rfl⟩
    have B0 := Lib.hid (show Below w.heap.size w W0 by rw [← hW0]; exact H2.out.alloc hz2 _)
    have G0 := Lib.hid (show w2.heap.size < W0.heap.size by rw [← hW0]; simp)
    have CE := Lib.hid (show ∀ k, k < 6 → ∃ x, W0.cell? ⟨w2.heap.size, k, none⟩ = some (.string x) ∧ NumIs x.data.toList 0 10 ∧ x.size ≤ 65536 from fun k hk => by
      have hx : k < [X0, X1, X2, X3, X4, X5].length := hk
      refine ⟨[X0, X1, X2, X3, X4, X5][k], ?_, SIX.out _ (List.getElem_mem hx), SZ.out _ (List.getElem_mem hx)⟩
      rw [← hW0]
      match k, hk with
      | 0, _ => simp [go_sem]
      | 1, _ => simp [go_sem]
      | 2, _ => simp [go_sem]
      | 3, _ => simp [go_sem]
      | 4, _ => simp [go_sem]
      | 5, _ => simp [go_sem])
    rw [hW0]
    clear hW0 hX0 hX1 hX2 hX3 hX4 hX5 SIX SZ
    go_loopw [64] (fun i wr => ∃ k : Nat, k ≤ 6 ∧ i = .int .i64 k ∧ Hid (Below W0.heap.size W0 wr)) (fun i _ => 6 - (intOf i).toNat)
    case atStart => exact ⟨0, Nat.zero_le _, rfl, Lib.hid (Below.refl _ _)⟩
    case round =>
      obtain ⟨k, hk, rfl, hb⟩ := hrel
      have HB := Lib.hid (B0.out.trans (hb.out.mono B0.out.size))
      by_cases hlt : k < 6
      · obtain ⟨x, hc, hx, hxz⟩ := CE.out k hlt
        have g := (hb.out.cell (p := ⟨w2.heap.size, k, none⟩) G0.out).trans hc
        have NX := Lib.hid (fun w L => number_any x hxz 0 10 hx w L)
        clear hc hx
        go_wp2_with fail
        refine (NX.out wr (LL.out.below HB.out)).mono ?_
        rintro e w3 ⟨rfl, hb3⟩
        have hb4 := Lib.hid (hb.out.trans (hb3.mono hb.out.size))
        clear hb3
        go_wp2_with fail
        go_roundw
        case rel => exact ⟨k + 1, by omega, by go_num, hb4⟩
        case measure => simp [intOf]; omega
      · go_wp2_with fail
        refine (RZ.out wr).mono ?_
        rintro e w3 ⟨rfl, hb3⟩
        have H3 := Lib.hid (HB.out.trans (hb3.mono HB.out.size))
        clear hb3
        go_wp2_with fail
        refine (TP.out _).mono ?_
        rintro e w4 ⟨rfl, rfl⟩
        go_wp2_with fail
        refine (NO.out _ (LL.out.below H3.out)).mono ?_
        rintro e w5 ⟨rfl, hb5⟩
        have H5 := Lib.hid (H3.out.trans (hb5.mono H3.out.size))
        clear hb5
        go_wp2_with fail
        refine (NS.out _ (LL.out.below H5.out)).mono ?_
        rintro e w6 ⟨rfl, hb6⟩
        have H6 := Lib.hid (H5.out.trans (hb6.mono H5.out.size))
        clear hb6
        rcases HV.out.three with h0 | ⟨h0, h1⟩ | ⟨h0, h1⟩
        · subst h0
          have hr := HV.out.range
          have DS := fun w L => digits_any v hr.1 hr.2 w L
          rw [show numStr v = s from str_ext (itoa_num HV.out)] at DS
          have DS := Lib.hid DS
          clear hr
          go_wp2_with fail
          refine (DS.out _ (LL.out.below H6.out)).mono ?_
          rintro e w7 ⟨rfl, hb7⟩
          have H7 := Lib.hid (H6.out.trans (hb7.mono H6.out.size))
          clear hb7
          go_wp2_with fail
          refine (works_any _ (LL.out.below H7.out)).mono ?_
          rintro e w8 ⟨rfl, hb8⟩
          have H8 := Lib.hid (H7.out.trans (hb8.mono H7.out.size))
          clear hb8
          go_wp2_with fail
          go_ret
          exact ⟨rfl, H8.out⟩
        · subst h0
          subst h1
          go_wp2_with fail
          refine (works_any _ (LL.out.below H6.out)).mono ?_
          rintro e w8 ⟨rfl, hb8⟩
          have H8 := Lib.hid (H6.out.trans (hb8.mono H6.out.size))
          clear hb8
          go_wp2_with fail
          go_ret
          exact ⟨rfl, H8.out⟩
        · subst h0
          subst h1
          have hlong := HV.out.long.2
          rw [← Lib.size_eq] at hlong
          have t18 : decide ((18 : Int) < (s.size : Int)) = true := by rw [decide_eq_true_iff]; omega
          go_wp2_with fail
          refine (works_any _ (LL.out.below H6.out)).mono ?_
          rintro e w8 ⟨rfl, hb8⟩
          have H8 := Lib.hid (H6.out.trans (hb8.mono H6.out.size))
          clear hb8
          go_wp2_with fail
          go_ret
          exact ⟨rfl, H8.out⟩

set_option maxRecDepth 100000 in
theorem lifted (os : Os) (started : os.Started) (H : Type) (enc : TypeId × Value → H) :
    ReturnsInHanded {} Tryd.checked os 13 .any (fun w args => (Rows.lexDigitsSpec.pre enc Tryd.prog Tryd.f13 [] false w args ∧ laidMetH Tryd.prog Rows.lexDigitsRow.laid w) ∧ sizedMet enc Tryd.prog Tryd.f13 (OpenSpec.ofChange Rows.lexDigitsSpec) false w args)
      (Rows.lexDigitsSpec.post enc Tryd.prog Tryd.f13 false true false false) := by
  refine returnsInHanded_of_change_and (C := Tryd.checked) (X := fun w _ => laidMetH Tryd.prog Rows.lexDigitsRow.laid w) (fun _ _ _ hh h => h.of_heap hh) own started (by kernel_rfl) Tryd.func13
    (ChangeSpec.witness_shaped (enc := enc) (C := Tryd.checked) (os := os) (X := fun w _ => laidMetH Tryd.prog Rows.lexDigitsRow.laid w) false (World.doorLaid Tryd.prog 400 os) #[.int .i64 0, .string ⟨#[]⟩] 8 rfl (shaped0 os _) (by kernel_rfl) (by kernel_rfl) (by kernel_rfl) (door_met os _)) ?_
  intro W base args ds gs before hval0 hW _ _ hL _
  have hval : ∀ (j : Nat) t v, Tryd.f13.params[j]? = some t → args[j]? = some v → Value.okWide Tryd.prog W .any base t v := hval0
  have hW' := hW
  obtain ⟨p, q, hA0, hV, rfl, hfz, hnd⟩ := hW
  have hA : DataW.TrodAll enc Tryd.prog W 0 (fun _ => true) true Tryd.f13.params.toList args.toList ds p := hA0
  rw [Tryd.params13] at hA hval
  obtain ⟨v0, vs0, d0, ds0, p0, q0, hargs, rfl, rfl, h0, r0⟩ := trodAll_cons hA
  obtain ⟨v1, vs1, d1, ds1, p1, q1, rfl, rfl, rfl, h1, r1⟩ := trodAll_cons r0
  obtain ⟨rfl, rfl, rfl⟩ := trodAll_nil r1
  obtain rfl : args = #[v0, v1] := by cases args; simp_all
  obtain ⟨rfl, rfl⟩ := trodVars_none hV
  obtain ⟨a0, rfl, rfl, rfl, w0⟩ := open_int Tryd.underlying2 (hval 0 2 v0 rfl rfl) h0
  obtain ⟨a1, rfl, rfl, rfl, w1⟩ := open_string Tryd.underlying9 (hval 1 9 v1 rfl rfl) h1
  clear hA0 hval0
  refine (walk a0 a1 W (lay_of _ W (by kernel_rfl) (.tail _ (.tail _ (.head _))) (.tail _ (.tail _ (.tail _ (.head _)))) hL) w0 w1).mono fun e W' ⟨he, bel⟩ => ?_
  subst he
  exact ⟨_, rfl, _, _, _, [], _, [], hW', trodAll_mk1 (shut_bool Tryd.underlying4 _), (trodAll_cons_mk (shut_int Tryd.underlying2 w0) (trodAll_cons_mk (shut_string Tryd.underlying9 w1) trodAll_mk0)), rfl, bel.frame _, fun h => by cases h⟩

theorem row_holds : Rows.LexDigitsSaid :=
  OpenClaim.holds_of_wide 13 Tryd.f13 rfl rfl rfl rfl rfl rfl rfl ⟨rfl, rfl, rfl, rfl, rfl⟩ rfl rfl rfl rfl rfl (by kernel_rfl) Tryd.func13 (by kernel_rfl)
    (of_decide_eq_true (by kernel_rfl)) (by unfold Func.isWrapper; first | (rw [if_pos (by decide +kernel)]; kernel_rfl) | (rw [if_neg (by decide +kernel)]; exact ⟨rfl, rfl⟩))
    (fun os started H enc _ => lifted os started H enc)

theorem proved : Rows.LexDigitsCardSaid :=
  Claim7.holds_tied_plain_at .later [] Rows.lexDigitsCard.laidKinds true Rows.lexDigitsCard.stood.harness Rows.lexDigitsCard.stood.looks
    row_holds (fun _ h => by cases h) (by kernel_rfl) (fun _ h => by cases h) lexDigits_row_tie rfl ⟨rfl, rfl⟩ (by kernel_rfl) rfl
    (fun f fn hf hfn => by
      obtain rfl : f = 13 := Option.some.inj ((show Tryd.prog.funcNamed Rows.lexDigitsRow.func = some 13 by kernel_rfl).symm.trans hf) |>.symm
      obtain rfl : fn = Tryd.f13 := (Option.some.inj (Tryd.func13.symm.trans hfn)).symm
      exact ⟨looks0, fun j t ht => by
        rw [Tryd.params13] at ht
        have hm : t ∈ [2, 9] := by simpa using Array.mem_of_getElem? ht
        have hall : ([2, 9].all fun u => !Tryd.prog.wantsStandIn u) = true := by kernel_rfl
        exact (show Tryd.prog.wantsStandIn t = false by simpa using List.all_eq_true.1 hall t hm)⟩)
    (by kernel_rfl)
end Go.Proofs.YtjlipkklljjdjaaDoor.lexDigits
