/- For all texts s and bytes c, LexCut returns true: what is before the first byte c, the byte, and what is behind it are the text; the byte is not before itself; without it, the text is all (texts of more than 5,000 bytes are not asked). Conditions: strconv's table of the powers of ten and its errors start as the program's text lays them (tied). -/
import Derived.Test.YtjlipkklljjdjaaDoorLexLaid
import Derived.ChangeMaps5
import Derived.Test.YtjlipkklljjdjaaDoorLexW
namespace Go.Proofs.YtjlipkklljjdjaaDoor.lexCut
open Go.ChangeShapes Go.WideShapes Go.ChangeAt Go.RowKit Go.ChangeMaps
attribute [local go_sem] conv_one

theorem before_none (s : ByteArray) (c k : Nat) (hc : c ≤ 255) (hno : ∀ j, j < k → ¬ Here s c j) : ∀ j, ¬ Here (s.extract 0 k) c j := by
  intro j hj
  have h1 := (list_at _ c hc j).2 hj
  rw [ext_take, List.getElem?_take] at h1
  split at h1
  · exact hno j ‹_› ((list_at s c hc j).1 h1)
  · cases h1
theorem parts_all (s : ByteArray) (c k : Nat) (hc : c ≤ 255) (h : Here s c k) : s.extract 0 k ++ strOfNums [(c : Int)] ++ s.extract (k + 1) s.size = s := by
  apply str_ext
  have hk : k < s.data.toList.length := by rw [← Lib.size_eq]; exact h.1
  have e := (list_at s c hc k).2 h
  rw [List.getElem?_eq_getElem hk] at e
  have e2 : (strOfNums [(c : Int)]).data.toList = [s.data.toList[k]] := by
    rw [strOfNums_data, Option.some.inj e]
    simp
  rw [ByteArray.data_append, ByteArray.data_append, Array.toList_append, Array.toList_append, e2, ext_take, Lib.extract_to_end]
  rw [List.append_assoc, List.singleton_append, ← List.drop_eq_getElem_cons hk, List.take_append_drop]

theorem walk (s : ByteArray) (c0 : Int) (w : World) (L : Lay w) (hs : s.size ≤ maxLen) (hc : (Lit.int .u8 c0).wf = true) :
    Calls Tryd.prog 12 #[.string s, .int .u8 c0] w fun e w' => e = .returned (.bool true) ∧ Below w.heap.size w w' := by
  unfold maxLen at hs
  obtain ⟨c, rfl, hc1⟩ := nat_u8 hc
  clear hc
  by_cases h : 5000 < s.size
  · have t : decide ((5000 : Int) < (s.size : Int)) = true := by rw [decide_eq_true_iff]; omega
    have W := Lib.hid (works_any w L)
    clear L
    go_enter Tryd.func12, Tryd.ntmps12
    go_wp2_with fail
    refine W.out.mono ?_
    rintro e w1 ⟨rfl, hb⟩
    have HB := Lib.hid hb
    clear hb
    go_wp2_with fail
    go_ret
    exact ⟨rfl, HB.out⟩
  · have t : decide ((5000 : Int) < (s.size : Int)) = false := by rw [decide_eq_false_iff_not]; omega
    have LL := Lib.hid L
    clear L
    rcases here_ex s c with ⟨k, h1, h2⟩ | h1
    · have A := Lib.hid (cut_yes s c k (by omega) hc1 h1 h2)
      have I1 := Tryd.strings_IndexByte (s.extract 0 k) c
      rw [index_no hc1 (before_none s c k hc1 h2)] at I1
      have I2 := Tryd.strings_IndexByte s c
      rw [index_yes hc1 h1 h2] at I2
      have hcat := parts_all s c k hc1 h1
      have hk := h1.1
      have za : (s.extract 0 k).size = k := by simp; omega
      have zb : (s.extract (k + 1) s.size).size = s.size - (k + 1) := by simp
      generalize s.extract 0 k = a at *
      generalize s.extract (k + 1) s.size = b at *
      have zc : (a ++ strOfNums [(c : Int)]).size = k + 1 := by rw [ByteArray.size_append, strOfNums_size, za]; rfl
      have z1 := strOfNums_size
      have I1 := Lib.hid I1
      have I2 := Lib.hid I2
      have es : (s.toList == s.toList) = true := by simp
      clear h1 h2
      go_enter Tryd.func12, Tryd.ntmps12
      go_wp2_with fail
      refine (A.out w).mono ?_
      rintro e w1 ⟨rfl, hb1⟩
      have H1 := Lib.hid hb1
      have hz1 := hb1.size
      clear hb1
      go_wp2_with fail
      refine (I1.out w1).mono ?_
      rintro e w2 ⟨rfl, rfl⟩
      go_wp2_with (first
        | (go_at_call 38; refine (I2.out _).mono ?_; rintro e w3 ⟨rfl, rfl⟩)
        | (go_at_call 15; refine (works_any _ ((LL.out.below H1.out).alloc _)).mono ?_; rintro e w3 ⟨rfl, hb⟩; have HB := Lib.hid ((H1.out.alloc hz1 _).trans (hb.mono (by simp; omega))); clear hb))
      go_ret
      exact ⟨rfl, HB.out⟩
    · have A := Lib.hid (cut_no s c hc1 h1)
      have I2 := Tryd.strings_IndexByte s c
      rw [index_no hc1 h1] at I2
      have I2 := Lib.hid I2
      have es : (s.toList == s.toList) = true := by simp
      clear h1
      go_enter Tryd.func12, Tryd.ntmps12
      go_wp2_with fail
      refine (A.out w).mono ?_
      rintro e w1 ⟨rfl, hb1⟩
      have H1 := Lib.hid hb1
      clear hb1
      go_wp2_with fail
      refine (I2.out w1).mono ?_
      rintro e w2 ⟨rfl, rfl⟩
      go_wp2_with (first
        | (go_at_call 38; refine (I2.out _).mono ?_; rintro e w3 ⟨rfl, rfl⟩)
        | (go_at_call 15; refine (works_any _ (LL.out.below H1.out)).mono ?_; rintro e w3 ⟨rfl, hb⟩; have HB := Lib.hid (H1.out.trans (hb.mono H1.out.size)); clear hb))
      go_ret
      exact ⟨rfl, HB.out⟩

set_option maxRecDepth 100000 in
theorem lifted (os : Os) (started : os.Started) (H : Type) (enc : TypeId × Value → H) :
    ReturnsInHanded {} Tryd.checked os 12 .any (fun w args => (Rows.lexCutSpec.pre enc Tryd.prog Tryd.f12 [] false w args ∧ laidMetH Tryd.prog Rows.lexCutRow.laid w) ∧ sizedMet enc Tryd.prog Tryd.f12 (OpenSpec.ofChange Rows.lexCutSpec) false w args)
      (Rows.lexCutSpec.post enc Tryd.prog Tryd.f12 false true false false) := by
  refine returnsInHanded_of_change_and (C := Tryd.checked) (X := fun w _ => laidMetH Tryd.prog Rows.lexCutRow.laid w) (fun _ _ _ hh h => h.of_heap hh) own started (by kernel_rfl) Tryd.func12
    (ChangeSpec.witness_shaped (enc := enc) (C := Tryd.checked) (os := os) (X := fun w _ => laidMetH Tryd.prog Rows.lexCutRow.laid w) false (World.doorLaid Tryd.prog 400 os) #[.string ⟨#[]⟩, .int .u8 0] 8 rfl (shaped0 os _) (by kernel_rfl) (by kernel_rfl) (by kernel_rfl) (door_met os _)) ?_
  intro W base args ds gs before hval0 hW _ _ hL _
  have hval : ∀ (j : Nat) t v, Tryd.f12.params[j]? = some t → args[j]? = some v → Value.okWide Tryd.prog W .any base t v := hval0
  have hW' := hW
  obtain ⟨p, q, hA0, hV, rfl, hfz, hnd⟩ := hW
  have hA : DataW.TrodAll enc Tryd.prog W 0 (fun _ => true) true Tryd.f12.params.toList args.toList ds p := hA0
  rw [Tryd.params12] at hA hval
  obtain ⟨v0, vs0, d0, ds0, p0, q0, hargs, rfl, rfl, h0, r0⟩ := trodAll_cons hA
  obtain ⟨v1, vs1, d1, ds1, p1, q1, rfl, rfl, rfl, h1, r1⟩ := trodAll_cons r0
  obtain ⟨rfl, rfl, rfl⟩ := trodAll_nil r1
  obtain rfl : args = #[v0, v1] := by cases args; simp_all
  obtain ⟨rfl, rfl⟩ := trodVars_none hV
  obtain ⟨a0, rfl, rfl, rfl, w0⟩ := open_string Tryd.underlying9 (hval 0 9 v0 rfl rfl) h0
  obtain ⟨a1, rfl, rfl, rfl, w1⟩ := open_int Tryd.underlying5 (hval 1 5 v1 rfl rfl) h1
  clear hA0 hval0
  refine (walk a0 a1 W (lay_of _ W (by kernel_rfl) (.tail _ (.tail _ (.head _))) (.tail _ (.tail _ (.tail _ (.head _)))) hL) w0 w1).mono fun e W' ⟨he, bel⟩ => ?_
  subst he
  exact ⟨_, rfl, _, _, _, [], _, [], hW', trodAll_mk1 (shut_bool Tryd.underlying4 _), (trodAll_cons_mk (shut_string Tryd.underlying9 w0) (trodAll_cons_mk (shut_int Tryd.underlying5 w1) trodAll_mk0)), rfl, bel.frame _, fun h => by cases h⟩

theorem row_holds : Rows.LexCutSaid :=
  OpenClaim.holds_of_wide 12 Tryd.f12 rfl rfl rfl rfl rfl rfl rfl ⟨rfl, rfl, rfl, rfl, rfl⟩ rfl rfl rfl rfl rfl (by kernel_rfl) Tryd.func12 (by kernel_rfl)
    (of_decide_eq_true (by kernel_rfl)) (by unfold Func.isWrapper; first | (rw [if_pos (by decide +kernel)]; kernel_rfl) | (rw [if_neg (by decide +kernel)]; exact ⟨rfl, rfl⟩))
    (fun os started H enc _ => lifted os started H enc)

theorem proved : Rows.LexCutCardSaid :=
  Claim7.holds_tied_plain_at .later [] Rows.lexCutCard.laidKinds true Rows.lexCutCard.stood.harness Rows.lexCutCard.stood.looks
    row_holds (fun _ h => by cases h) (by kernel_rfl) (fun _ h => by cases h) lexCut_row_tie rfl ⟨rfl, rfl⟩ (by kernel_rfl) rfl
    (fun f fn hf hfn => by
      obtain rfl : f = 12 := Option.some.inj ((show Tryd.prog.funcNamed Rows.lexCutRow.func = some 12 by kernel_rfl).symm.trans hf) |>.symm
      obtain rfl : fn = Tryd.f12 := (Option.some.inj (Tryd.func12.symm.trans hfn)).symm
      exact ⟨looks0, fun j t ht => by
        rw [Tryd.params12] at ht
        have hm : t ∈ [9, 5] := by simpa using Array.mem_of_getElem? ht
        have hall : ([9, 5].all fun u => !Tryd.prog.wantsStandIn u) = true := by kernel_rfl
        exact (show Tryd.prog.wantsStandIn t = false by simpa using List.all_eq_true.1 hall t hm)⟩)
    (by kernel_rfl)
end Go.Proofs.YtjlipkklljjdjaaDoor.lexCut
