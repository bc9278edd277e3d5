/- For all texts s, LexWords returns true: the words of a text are the document's (texts of more than 5,000 bytes are not asked). Conditions: strconv's table of the powers of ten and its errors start as the program's text lays them (tied). -/
import Derived.Test.YtjlipkklljjdjaaDoorLexLaid
import Derived.ChangeMaps5
import Derived.Test.YtjlipkklljjdjaaDoorLexS
namespace Go.Proofs.YtjlipkklljjdjaaDoor.lexWords
open Go.ChangeShapes Go.WideShapes Go.ChangeAt Go.RowKit Go.ChangeMaps

theorem walk (s : ByteArray) (w : World) (L : Lay w) (hs : s.size ≤ maxLen) :
    Calls Tryd.prog 4 #[.string s] w fun e w' => e = .returned (.bool true) ∧ Below w.heap.size w w' := by
  unfold maxLen at hs
  by_cases h : 5000 < s.size
  · have t : decide ((5000 : Int) < (s.size : Int)) = true := by rw [decide_eq_true_iff]; omega
    have W := Lib.hid (works_any w L)
    clear L
    go_enter Tryd.func4, Tryd.ntmps4
    go_wp2_with fail
    refine W.out.mono ?_
    rintro e w1 ⟨rfl, hb⟩
    have HB := Lib.hid hb
    clear hb
    go_wp2_with fail
    go_ret
    exact ⟨rfl, HB.out⟩
  · have t : decide ((5000 : Int) < (s.size : Int)) = false := by rw [decide_eq_false_iff_not]; omega
    have A := Lib.hid (words_any s (by omega))
    have B := Lib.hid (rwords_any s (by omega))
    have LL := Lib.hid L
    have hn : (Lex.full (pcsOf blB s)).length ≤ s.size := Nat.le_trans (Lex.full_len _) (pcsOf_len blB s)
    have FA := Lib.hid (show ∀ k, k < (Lex.full (pcsOf blB s)).length → ∃ (f : Int) (T : ByteArray), (flatW s (Lex.full (pcsOf blB s)))[k * 2]? = some (.int .i64 f) ∧ (flatW s (Lex.full (pcsOf blB s)))[k * 2 + 1]? = some (.string T) from fun k hk => ⟨_, _, flatW_at s (Lex.full (pcsOf blB s)) k hk⟩)
    clear L
    generalize hN : (Lex.full (pcsOf blB s)).length = N at *
    generalize hX : flatW s (Lex.full (pcsOf blB s)) = X at *
    have HN := Lib.hid hN
    clear hN hX
    go_enter Tryd.func4, Tryd.ntmps4
    go_wp2_with fail
    refine (A.out w).mono ?_
    rintro e w1 ⟨v1, rfl, o1⟩
    obtain ⟨A1, cap1, rfl, c1, p1⟩ := own_any o1.row
    have H1 := Lib.hid o1.below
    have P1 := Lib.hid p1
    clear o1 p1
    go_wp2_with fail
    refine (B.out w1).mono ?_
    rintro e w2 ⟨v2, rfl, o2⟩
    obtain ⟨A2, cap2, rfl, c2, p2⟩ := own_any o2.row
    have H2 := Lib.hid (H1.out.trans (o2.below.mono H1.out.size))
    have Q1 := Lib.hid (P1.out.below o2.below)
    have Q2 := Lib.hid p2
    clear o2 p2
    go_wp2_with fail
    go_loopw [21] (fun i wr => ∃ k q : Nat, k ≤ N ∧ i = .int .i64 k ∧ wr = w2.drewN q) (fun i _ => N - (intOf i).toNat)
    case atStart => exact ⟨0, 0, Nat.zero_le _, rfl, rfl⟩
    case round =>
      obtain ⟨k, q, hk, rfl, rfl⟩ := hrel
      by_cases hlt : k < N
      · obtain ⟨g1, rfl, hg1, hc1⟩ := Q1.out (by omega)
        obtain ⟨g2, rfl, hg2, hc2⟩ := Q2.out (by omega)
        obtain ⟨f, T, f0, f1⟩ := FA.out k hlt
        have a0 := hc1 _ _ f0
        have a1 := hc1 _ _ f1
        have b0 := hc2 _ _ f0
        have b1 := hc2 _ _ f1
        clear f0 f1 hc1 hc2
        go_wp2_with fail
        go_quiet (fail)
        go_wp2_with fail
        go_roundw
        case rel => exact ⟨k + 1, q + nq, by omega, by go_num, rfl⟩
        case measure => simp [intOf]; omega
      · go_wp2_with fail
        refine (works_any _ ((LL.out.below H2.out).drewN q)).mono ?_
        rintro e w3 ⟨rfl, hb⟩
        have HB := Lib.hid (H2.out.trans (((below_drewN _ _ q).trans hb).mono H2.out.size))
        clear hb
        go_wp2_with fail
        go_ret
        exact ⟨rfl, HB.out⟩

set_option maxRecDepth 100000 in
theorem lifted (os : Os) (started : os.Started) (H : Type) (enc : TypeId × Value → H) :
    ReturnsInHanded {} Tryd.checked os 4 .any (fun w args => (Rows.lexWordsSpec.pre enc Tryd.prog Tryd.f4 [] false w args ∧ laidMetH Tryd.prog Rows.lexWordsRow.laid w) ∧ sizedMet enc Tryd.prog Tryd.f4 (OpenSpec.ofChange Rows.lexWordsSpec) false w args)
      (Rows.lexWordsSpec.post enc Tryd.prog Tryd.f4 false true false false) := by
  refine returnsInHanded_of_change_and (C := Tryd.checked) (X := fun w _ => laidMetH Tryd.prog Rows.lexWordsRow.laid w) (fun _ _ _ hh h => h.of_heap hh) own started (by kernel_rfl) Tryd.func4
    (ChangeSpec.witness_shaped (enc := enc) (C := Tryd.checked) (os := os) (X := fun w _ => laidMetH Tryd.prog Rows.lexWordsRow.laid w) false (World.doorLaid Tryd.prog 400 os) #[.string ⟨#[]⟩] 8 rfl (shaped0 os _) (by kernel_rfl) (by kernel_rfl) (by kernel_rfl) (door_met os _)) ?_
  intro W base args ds gs before hval0 hW _ _ hL _
  have hval : ∀ (j : Nat) t v, Tryd.f4.params[j]? = some t → args[j]? = some v → Value.okWide Tryd.prog W .any base t v := hval0
  have hW' := hW
  obtain ⟨p, q, hA0, hV, rfl, hfz, hnd⟩ := hW
  have hA : DataW.TrodAll enc Tryd.prog W 0 (fun _ => true) true Tryd.f4.params.toList args.toList ds p := hA0
  rw [Tryd.params4] at hA hval
  obtain ⟨v0, vs0, d0, ds0, p0, q0, hargs, rfl, rfl, h0, r0⟩ := trodAll_cons hA
  obtain ⟨rfl, rfl, rfl⟩ := trodAll_nil r0
  obtain rfl : args = #[v0] := by cases args; simp_all
  obtain ⟨rfl, rfl⟩ := trodVars_none hV
  obtain ⟨a0, rfl, rfl, rfl, w0⟩ := open_string Tryd.underlying9 (hval 0 9 v0 rfl rfl) h0
  clear hA0 hval0
  refine (walk a0 W (lay_of _ W (by kernel_rfl) (.tail _ (.tail _ (.head _))) (.tail _ (.tail _ (.tail _ (.head _)))) hL) w0).mono fun e W' ⟨he, bel⟩ => ?_
  subst he
  exact ⟨_, rfl, _, _, _, [], _, [], hW', trodAll_mk1 (shut_bool Tryd.underlying4 _), (trodAll_cons_mk (shut_string Tryd.underlying9 w0) trodAll_mk0), rfl, bel.frame _, fun h => by cases h⟩

theorem row_holds : Rows.LexWordsSaid :=
  OpenClaim.holds_of_wide 4 Tryd.f4 rfl rfl rfl rfl rfl rfl rfl ⟨rfl, rfl, rfl, rfl, rfl⟩ rfl rfl rfl rfl rfl (by kernel_rfl) Tryd.func4 (by kernel_rfl)
    (of_decide_eq_true (by kernel_rfl)) (by unfold Func.isWrapper; first | (rw [if_pos (by decide +kernel)]; kernel_rfl) | (rw [if_neg (by decide +kernel)]; exact ⟨rfl, rfl⟩))
    (fun os started H enc _ => lifted os started H enc)

theorem proved : Rows.LexWordsCardSaid :=
  Claim7.holds_tied_plain_at .later [] Rows.lexWordsCard.laidKinds true Rows.lexWordsCard.stood.harness Rows.lexWordsCard.stood.looks
    row_holds (fun _ h => by cases h) (by kernel_rfl) (fun _ h => by cases h) lexWords_row_tie rfl ⟨rfl, rfl⟩ (by kernel_rfl) rfl
    (fun f fn hf hfn => by
      obtain rfl : f = 4 := Option.some.inj ((show Tryd.prog.funcNamed Rows.lexWordsRow.func = some 4 by kernel_rfl).symm.trans hf) |>.symm
      obtain rfl : fn = Tryd.f4 := (Option.some.inj (Tryd.func4.symm.trans hfn)).symm
      exact ⟨looks0, fun j t ht => by
        rw [Tryd.params4] at ht
        have hm : t ∈ [9] := by simpa using Array.mem_of_getElem? ht
        have hall : ([9].all fun u => !Tryd.prog.wantsStandIn u) = true := by kernel_rfl
        exact (show Tryd.prog.wantsStandIn t = false by simpa using List.all_eq_true.1 hall t hm)⟩)
    (by kernel_rfl)
end Go.Proofs.YtjlipkklljjdjaaDoor.lexWords
