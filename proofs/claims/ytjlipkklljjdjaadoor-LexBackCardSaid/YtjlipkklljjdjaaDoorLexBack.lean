/- For all texts s, LexBack returns true: the lines of a text, each followed by a line feed, are the text, if it ends with one, and otherwise the text followed by one; they are numbered from 1 on, stand where they say, and have no line feeds; the place of each is its number, and the column 1 (texts of more than 5,000 bytes are not asked). Conditions: strconv's table of the powers of ten and its errors start as the program's text lays them (tied). -/
import Derived.Test.YtjlipkklljjdjaaDoorLexLaid
import Derived.ChangeMaps5
import Derived.Test.YtjlipkklljjdjaaDoorLexBk
namespace Go.Proofs.YtjlipkklljjdjaaDoor.lexBack
open Go.ChangeShapes Go.WideShapes Go.ChangeAt Go.RowKit Go.ChangeMaps

set_option maxRecDepth 100000 in
set_option maxHeartbeats 2000000 in
theorem walk (s : ByteArray) (w : World) (L : Lay w) (hs : s.size ≤ maxLen) :
    Calls Tryd.prog 10 #[.string s] w fun e w' => e = .returned (.bool true) ∧ Below w.heap.size w w' := by
  unfold maxLen at hs
  have LL := Lib.hid L
  clear L
  by_cases h : 5000 < s.size
  · have t : decide ((5000 : Int) < (s.size : Int)) = true := by rw [decide_eq_true_iff]; omega
    go_enter Tryd.func10, Tryd.ntmps10
    go_wp2_with fail
    refine (works_any w LL.out).mono ?_
    rintro e w1 ⟨rfl, hb⟩
    have HB := Lib.hid hb
    clear hb
    go_wp2_with fail
    go_ret
    exact ⟨rfl, HB.out⟩
  · have t : decide ((5000 : Int) < (s.size : Int)) = false := by rw [decide_eq_false_iff_not]; omega
    have A := Lib.hid (lines_any s (by omega))
    have hn := pcsOf_len nlB s
    have FA := Lib.hid (show ∀ k, k < (pcsOf nlB s).length → ∃ (f : Nat) (T : ByteArray), f = startOf (pcsOf nlB s) k ∧ f + (T.size + 1) = startOf (pcsOf nlB s) (k + 1) ∧ f + T.size ≤ s.size ∧ tx s (pcsOf nlB s) (k + 1) = tx s (pcsOf nlB s) k ++ [T, lfS] ∧
        decide (0 ≤ Lib.indexByte T.data.toList 10) = false ∧ PlaceIs s (f : Nat) ((k : Int) + 1) 1 0 ∧
        (flatL s 0 (pcsOf nlB s))[k * 3]? = some (.int .i64 ((k : Int) + 1)) ∧ (flatL s 0 (pcsOf nlB s))[k * 3 + 1]? = some (.int .i64 f) ∧ (flatL s 0 (pcsOf nlB s))[k * 3 + 2]? = some (.string T) from fun k hk => by
      have P := Lex.piece (sepAt nlB s) s.size k hk
      have p1 : (pcsOf nlB s)[k].1 ≤ (pcsOf nlB s)[k].2 := P.le
      have p2 : (pcsOf nlB s)[k].2 ≤ s.size := P.top
      have F := flatL_at s (pcsOf nlB s) 0 k hk
      have e : ((0 + k + 1 : Nat) : Int) = (k : Int) + 1 := by omega
      rw [e] at F
      have hz : (s.extract (pcsOf nlB s)[k].1 (pcsOf nlB s)[k].2).size = (pcsOf nlB s)[k].2 - (pcsOf nlB s)[k].1 := by rw [ByteArray.size_extract]; omega
      exact ⟨_, _, (start_at s k hk).symm, by rw [start_next _ k hk, hz]; omega, by rw [hz]; omega, tx_succ s _ k hk, no_lf s k hk, place_line s k hk, F.1, F.2.1, F.2.2⟩)
    have JB := Lib.hid (back_join s (by omega))
    have TL := Lib.hid (tx_len s (pcsOf nlB s))
    have TS := Lib.hid (tx_small s (pcsOf nlB s) (pcsOf nlB s).length 5000 (by omega) (by omega))
    have SZ := Lib.hid (show startOf (pcsOf nlB s) 0 = 0 from rfl)
    obtain ⟨N, hN⟩ : ∃ N, (pcsOf nlB s).length = N := ⟨_, rfl⟩
    rw [hN] at A hn FA JB TS
    have TLN := Lib.hid (TL.out N (by omega))
    have TLk := Lib.hid (show ∀ k, k ≤ N → (tx s (pcsOf nlB s) k).length = 2 * k from fun k hk => TL.out k (by omega))
    clear TL hN
    generalize hX : flatL s 0 (pcsOf nlB s) = X at *
    clear hX
    generalize hP : pcsOf nlB s = P at *
    clear hP
    obtain ⟨i0, hi, hz0, hz1, hz2⟩ := info_parts infoStr
    go_enter Tryd.func10, Tryd.ntmps10
    go_wp2_with fail
    refine (A.out w).mono ?_
    rintro e w1 ⟨v1, rfl, o1⟩
    obtain ⟨A1, cap1, rfl, c1, p1⟩ := own_any o1.row
    have H1 := Lib.hid o1.below
    have P1 := Lib.hid p1
    clear o1 p1
    go_wp2_with fail
    go_loopw [5, 6, 27] (fun a v i wr => ∃ k : Nat, k ≤ N ∧ i = .int .i64 k ∧ a = .int .i64 (startOf P k : Nat) ∧ Hid (OwnR w1.heap.size 9 1 w1 v (2 * k) ((tx s P k).map Value.string) wr)) (fun _ _ i _ => N - (intOf i).toNat)
    case atStart => exact ⟨0, Nat.zero_le _, rfl, by rw [SZ.out]; rfl, Lib.hid ⟨by rw [tx_zero]; exact World.ownsRow_nil _ _ _ _, Below.refl _ _⟩⟩
    case round =>
      obtain ⟨k, hk, rfl, rfl, ho⟩ := hrel
      have hsz := ho.out.below.size
      by_cases hlt : k < N
      · obtain ⟨f, T, hf, hf1, hf2, ht, hc, hp, f0, f1, f2⟩ := FA.out k hlt
        obtain ⟨g1, rfl, hg1, hc1⟩ := P1.out (by omega)
        have a0 := (ho.out.below.cell (p := ⟨g1, k * 3, none⟩) hg1).trans (hc1 _ _ f0)
        have a1 := (ho.out.below.cell (p := ⟨g1, k * 3 + 1, none⟩) hg1).trans (hc1 _ _ f1)
        have a2 := (ho.out.below.cell (p := ⟨g1, k * 3 + 2, none⟩) hg1).trans (hc1 _ _ f2)
        have CT := Lib.hid (fun w => Tryd.strings_Contains_one T 10 w)
        rw [hc] at CT
        have PL := Lib.hid (place_any s (by omega) f _ _ _ hp)
        rw [← hf]
        have HF1 := Lib.hid hf1
        have HT := Lib.hid ht
        clear f0 f1 f2 hc1 hc hp hf hf1 ht
        have HO := Lib.hid ho.out
        go_wp2_with (first
          | (go_at_call 32; refine (CT.out _).mono ?_; rintro e w2 ⟨rfl, rfl⟩))
        refine (PL.out _).mono ?_
        rintro e w2 ⟨rfl, rfl⟩
        go_wp2_with (at_builtin; refine wpList_append_own _ rfl _ _ 48 rfl w1.heap.size 9 i0 (.string ⟨#[]⟩) 1 16 Tryd.underlying48 hi hz0 hz1 hz2 rfl (by decide) _ (2 * k) _ rfl ((HO.out.row.alloc _).alloc _) ⟨wr.heap.size + 1, 0, none⟩ 2 2 [.string T, .string ⟨#[10]⟩] rfl rfl ?c1 ?c2 ?c3 ?c4 ?c5 ?c6)
        case c1 => simpa using cell_two_new (wr.alloc (.cells #[.int .i64 ((k : Int) + 1), .int .i64 (f : Nat), .string T] 31)) (.string T) (.string ⟨#[10]⟩) 9
        case c2 => intro u hu; simp at hu; rcases hu with rfl | rfl <;> rfl
        case c3 => simp [maxLen]; omega
        case c4 => omega
        case c5 => simp; omega
        case c6 =>
          intro v' W2 hown hgrow _
          have HS := Lib.hid (show OwnR w1.heap.size 9 1 w1 v' (2 * (k + 1)) ((tx s P (k + 1)).map Value.string) W2 from ⟨by
            rw [HT.out, List.map_append]
            simpa [lfS, Nat.mul_add] using hown, ((HO.out.below.alloc hsz _).alloc (by simp; omega) _).grown hgrow (by simp; omega) (fun j hj => (HO.out.row.lt j hj).1)⟩)
          clear hown hgrow ho
          go_wp2_with fail
          go_roundw
          case rel => exact ⟨k + 1, by omega, by go_num, by rw [← HF1.out]; go_num, HS⟩
          case measure => simp [intOf]; omega
      · obtain rfl : k = N := by omega
        have HO := Lib.hid ho.out
        have V := Lib.hid (strs_own (xs := tx s P k) (by rw [TLN.out]; exact HO.out.row))
        have B1 := Lib.hid (H1.out.trans (HO.out.below.mono H1.out.size))
        have JQ := Lib.hid (fun v w hv => join_any (tx s P k) ⟨#[]⟩ (backOf s) 0 ⟨by rw [TLN.out]; omega, by decide, fun x hx => by have := TS.out x hx; omega⟩ JB.out v w hv)
        have es : (s.toList == s.toList) = true := by simp
        clear ho
        rcases Nat.eq_zero_or_pos s.size with hz | hz
        · have e0 := str_empty hz
          have e1 : s.toList.isEmpty = true := by rw [e0]; rfl
          rw [back_yes s (.inl hz)] at JQ
          clear hz
          go_wp2_with fail
          refine (JQ.out _ _ V.out).mono ?_
          rintro e w3 ⟨rfl, hb⟩
          have B2 := Lib.hid (B1.out.trans (hb.mono B1.out.size))
          clear hb
          go_wp2_with fail
          refine (works_any _ (LL.out.below B2.out)).mono ?_
          rintro e w4 ⟨rfl, hb⟩
          have HB := Lib.hid (B2.out.trans (hb.mono B2.out.size))
          clear hb
          go_wp2_with fail
          go_ret
          exact ⟨rfl, HB.out⟩
        · have e1 := str_some (show 1 ≤ s.size by omega)
          have e0 : ¬ s.toList = [] := fun e => by rw [e] at e1; cases e1
          have SF := fun w => Tryd.strings_HasSuffix s ⟨#[10]⟩ w (by omega)
          rw [show (⟨#[10]⟩ : ByteArray).data.toList = [10] from rfl] at SF
          cases hf : Lib.hasSuffix s.data.toList [10] with
          | true =>
            rw [back_yes s (.inr hf)] at JQ
            rw [hf] at SF
            have SF := Lib.hid SF
            clear hf
            go_wp2_with fail
            refine (JQ.out _ _ V.out).mono ?_
            rintro e w3 ⟨rfl, hb⟩
            have B2 := Lib.hid (B1.out.trans (hb.mono B1.out.size))
            clear hb
            go_wp2_with (go_at_call 33; refine (SF.out _).mono ?_; rintro e w4 ⟨rfl, rfl⟩)
            refine (works_any _ (LL.out.below B2.out)).mono ?_
            rintro e w4 ⟨rfl, hb⟩
            have HB := Lib.hid (B2.out.trans (hb.mono B2.out.size))
            clear hb
            go_wp2_with fail
            go_ret
            exact ⟨rfl, HB.out⟩
          | false =>
            rw [back_no s hz hf] at JQ
            rw [hf] at SF
            have SF := Lib.hid SF
            clear hf
            obtain ⟨R, hR⟩ : ∃ R, s ++ ⟨#[10]⟩ = R := ⟨_, rfl⟩
            rw [show s ++ lfS = R from hR] at JQ
            have zl : (⟨#[10]⟩ : ByteArray).size = 1 := rfl
            have eR : (R.toList == R.toList) = true := by simp
            go_wp2_with fail
            refine (JQ.out _ _ V.out).mono ?_
            rintro e w3 ⟨rfl, hb⟩
            have B2 := Lib.hid (B1.out.trans (hb.mono B1.out.size))
            clear hb
            go_wp2_with (go_at_call 33; refine (SF.out _).mono ?_; rintro e w4 ⟨rfl, rfl⟩)
            refine (works_any _ (LL.out.below B2.out)).mono ?_
            rintro e w4 ⟨rfl, hb⟩
            have HB := Lib.hid (B2.out.trans (hb.mono B2.out.size))
            clear hb
            go_wp2_with fail
            go_ret
            exact ⟨rfl, HB.out⟩

set_option maxRecDepth 100000 in
theorem lifted (os : Os) (started : os.Started) (H : Type) (enc : TypeId × Value → H) :
    ReturnsInHanded {} Tryd.checked os 10 .any (fun w args => (Rows.lexBackSpec.pre enc Tryd.prog Tryd.f10 [] false w args ∧ laidMetH Tryd.prog Rows.lexBackRow.laid w) ∧ sizedMet enc Tryd.prog Tryd.f10 (OpenSpec.ofChange Rows.lexBackSpec) false w args)
      (Rows.lexBackSpec.post enc Tryd.prog Tryd.f10 false true false false) := by
  refine returnsInHanded_of_change_and (C := Tryd.checked) (X := fun w _ => laidMetH Tryd.prog Rows.lexBackRow.laid w) (fun _ _ _ hh h => h.of_heap hh) own started (by kernel_rfl) Tryd.func10
    (ChangeSpec.witness_shaped (enc := enc) (C := Tryd.checked) (os := os) (X := fun w _ => laidMetH Tryd.prog Rows.lexBackRow.laid w) false (World.doorLaid Tryd.prog 400 os) #[.string ⟨#[]⟩] 8 rfl (shaped0 os _) (by kernel_rfl) (by kernel_rfl) (by kernel_rfl) (door_met os _)) ?_
  intro W base args ds gs before hval0 hW _ _ hL _
  have hval : ∀ (j : Nat) t v, Tryd.f10.params[j]? = some t → args[j]? = some v → Value.okWide Tryd.prog W .any base t v := hval0
  have hW' := hW
  obtain ⟨p, q, hA0, hV, rfl, hfz, hnd⟩ := hW
  have hA : DataW.TrodAll enc Tryd.prog W 0 (fun _ => true) true Tryd.f10.params.toList args.toList ds p := hA0
  rw [Tryd.params10] at hA hval
  obtain ⟨v0, vs0, d0, ds0, p0, q0, hargs, rfl, rfl, h0, r0⟩ := trodAll_cons hA
  obtain ⟨rfl, rfl, rfl⟩ := trodAll_nil r0
  obtain rfl : args = #[v0] := by cases args; simp_all
  obtain ⟨rfl, rfl⟩ := trodVars_none hV
  obtain ⟨a0, rfl, rfl, rfl, w0⟩ := open_string Tryd.underlying9 (hval 0 9 v0 rfl rfl) h0
  clear hA0 hval0
  refine (walk a0 W (lay_of _ W (by kernel_rfl) (.tail _ (.tail _ (.head _))) (.tail _ (.tail _ (.tail _ (.head _)))) hL) w0).mono fun e W' ⟨he, bel⟩ => ?_
  subst he
  exact ⟨_, rfl, _, _, _, [], _, [], hW', trodAll_mk1 (shut_bool Tryd.underlying4 _), (trodAll_cons_mk (shut_string Tryd.underlying9 w0) trodAll_mk0), rfl, bel.frame _, fun h => by cases h⟩

theorem row_holds : Rows.LexBackSaid :=
  OpenClaim.holds_of_wide 10 Tryd.f10 rfl rfl rfl rfl rfl rfl rfl ⟨rfl, rfl, rfl, rfl, rfl⟩ rfl rfl rfl rfl rfl (by kernel_rfl) Tryd.func10 (by kernel_rfl)
    (of_decide_eq_true (by kernel_rfl)) (by unfold Func.isWrapper; first | (rw [if_pos (by decide +kernel)]; kernel_rfl) | (rw [if_neg (by decide +kernel)]; exact ⟨rfl, rfl⟩))
    (fun os started H enc _ => lifted os started H enc)

theorem proved : Rows.LexBackCardSaid :=
  Claim7.holds_tied_plain_at .later [] Rows.lexBackCard.laidKinds true Rows.lexBackCard.stood.harness Rows.lexBackCard.stood.looks
    row_holds (fun _ h => by cases h) (by kernel_rfl) (fun _ h => by cases h) lexBack_row_tie rfl ⟨rfl, rfl⟩ (by kernel_rfl) rfl
    (fun f fn hf hfn => by
      obtain rfl : f = 10 := Option.some.inj ((show Tryd.prog.funcNamed Rows.lexBackRow.func = some 10 by kernel_rfl).symm.trans hf) |>.symm
      obtain rfl : fn = Tryd.f10 := (Option.some.inj (Tryd.func10.symm.trans hfn)).symm
      exact ⟨looks0, fun j t ht => by
        rw [Tryd.params10] at ht
        have hm : t ∈ [9] := by simpa using Array.mem_of_getElem? ht
        have hall : ([9].all fun u => !Tryd.prog.wantsStandIn u) = true := by kernel_rfl
        exact (show Tryd.prog.wantsStandIn t = false by simpa using List.all_eq_true.1 hall t hm)⟩)
    (by kernel_rfl)
end Go.Proofs.YtjlipkklljjdjaaDoor.lexBack
