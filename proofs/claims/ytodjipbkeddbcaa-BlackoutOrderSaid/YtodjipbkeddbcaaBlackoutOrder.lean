/- For all pairs of slices of pairs of bytes and all bytes, BlackoutOrder returns true: normal lists, unions and what both have do not depend on the order of the spans, nor on that of the lists, nor on spans that are cut in two. No conditions. -/
import Derived.Test.YtodjipbkeddbcaaBlkM
namespace Go.Proofs.Ytodjipbkeddbcaa.blackoutOrder
open Go.ChangeShapes Go.WideShapes Go.ChangeAt Go.RowKit

set_option maxRecDepth 100000 in
set_option maxHeartbeats 4000000 in
theorem walk (a : Option Addr) (len cap : Nat) (z : List (Nat × Nat)) (a' : Option Addr) (len' cap' : Nat) (z' : List (Nat × Nat)) (c : Int) (w : World) (h : InP w a len cap z) (h' : InP w a' len' cap' z') (hc : (Lit.int .u8 c).wf = true) :
    Calls Try.prog 8 #[.slice a len cap, .slice a' len' cap', .int .u8 c] w fun e w' => e = .returned (.bool true) ∧ Below w.heap.size w w' := by
  obtain ⟨c0, c1⟩ := bd8 hc
  obtain ⟨i0, hi, hz0, hz1, hz2⟩ := info_parts infoS
  have B0 : Hid (Below w.heap.size w w) := Lib.hid (Below.refl _ _)
  have SP := Lib.hid (spans_any a len cap z w h)
  have SQ := Lib.hid (fun W (hb : Below w.heap.size w W) => spans_any a' len' cap' z' W (h'.below hb))
  have SL := Bk.spansL_len z
  have SM := Bk.spansL_len z'
  have OL := Bk.spansL_ok z
  have OM := Bk.spansL_ok z'
  have SI := Lib.hid (fun x hx => Bk.spansL_in (l := z) (x := x) hx)
  obtain ⟨l, hl⟩ : ∃ l, Bk.spansL z = l := ⟨_, rfl⟩
  obtain ⟨m, hm⟩ : ∃ l, Bk.spansL z' = l := ⟨_, rfl⟩
  rw [hl] at SP SL OL SI
  rw [hm] at SQ SM OM
  obtain ⟨kk, hkk⟩ : ∃ kk : Nat, c % ((l.length : Int) + 1) = kk := ⟨(c % ((l.length : Int) + 1)).toNat, by have := Int.emod_nonneg c (show ((l.length : Int) + 1) ≠ 0 by omega); omega⟩
  have kkl : kk ≤ l.length := by have := Int.emod_lt_of_pos c (show (0 : Int) < (l.length : Int) + 1 by omega); omega
  have k2 : c.tmod ((l.length : Int) + 1) = (kk : Int) := by rw [Int.tmod_eq_emod_of_nonneg c0, hkk]
  obtain ⟨e, he⟩ : ∃ e, c % 40 = e := ⟨_, rfl⟩
  have e0 : 0 ≤ e ∧ e < 40 := by omega
  have e2 : c.tmod 40 = e := by rw [Int.tmod_eq_emod_of_nonneg c0, he]
  have w1 : IntKind.i64.wrap c = c := by rw [IntKind.wrap_i64]; omega
  have w2 : IntKind.i64.wrap ((l.length : Int) + 1) = (l.length : Int) + 1 := by rw [IntKind.wrap_i64]; omega
  have w3 : IntKind.i64.wrap (kk : Int) = (kk : Int) := by rw [IntKind.wrap_i64]; omega
  have w4 : IntKind.i64.wrap e = e := by rw [IntKind.wrap_i64]; omega
  have z1 : ((l.length : Int) + 1 == 0) = false := by rw [beq_eq_false_iff_ne]; omega
  have z2 : ¬ (l.length : Int) + 1 = 0 := by omega
  have ki : (kk : Int) ≤ (l.length : Int) := by omega
  have k0 : (0 : Int) ≤ (kk : Int) := by omega
  obtain ⟨n, rn, hn⟩ := Bk.resR_ex l [] 1
  obtain ⟨u, ru, hu⟩ := Bk.resR_ex l m 1
  obtain ⟨x, rx, hx⟩ := Bk.resR_ex l m 2
  have el : Bk.errL l = 0 := Bk.errL_zero.2 OL
  have em : Bk.errL m = 0 := Bk.errL_zero.2 OM
  have er : Bk.err2 l m = 0 := Bk.err2_zero.2 ⟨el, em⟩
  have en : rn = 0 := by rw [hn.1, Bk.err2_nil, el]
  have eu : ru = 0 := by rw [hu.1, er]
  have ex : rx = 0 := by rw [hx.1, er]
  subst en eu ex
  have nl : n.length ≤ l.length := Bk.norm_least hn.res.norm (fun t => Bk.res_one hn.res t)
  have nt : decide ((n.length : Int) ≤ (l.length : Int)) = true := by rw [decide_eq_true_iff]; omega
  have UL := hu.len
  have XL := hx.len
  have EN : Bk.errL n = 0 := Bk.errL_zero.2 ⟨by omega, hn.okS⟩
  have HN := Lib.hid hn
  have HA := Lib.hid (show Bk.ResR n [] 1 n 0 from ⟨by rw [Bk.err2_nil, EN], .inl ⟨rfl, Bk.norm_self hn.res.norm⟩⟩)
  have HU := Lib.hid hu
  have HX := Lib.hid hx
  have EL := Lib.hid (And.intro el em)
  have OLL := Lib.hid OL.2
  have HE := Lib.hid e0
  clear h h' hc hl hm hkk he hn hu hx el em er EN OL OM e0
  go_enter Try.func8, Try.ntmps8
  go_wp2_with fail
  refine SP.out.mono ?_
  rintro e' V1 ⟨va, rfl, hva⟩
  have FORM : (va = .slice none 0 0 ∧ l.length = 0) ∨ ∃ g cp, va = .slice (some ⟨g, 0, none⟩) l.length cp ∧ l.length ≤ cp := by
    rcases hva.row.2 with ⟨q1, q2⟩ | ⟨g, cp, cur, q1, _, _, q2, _⟩
    · exact .inl ⟨q1, q2⟩
    · exact .inr ⟨g, cp, q1, q2⟩
  have B1 := Lib.hid hva.below
  have RA1 := Lib.hid (hva.rowS (by omega))
  clear hva
  rcases FORM with ⟨rfl, l0⟩ | ⟨g, cp, rfl, hcp⟩
  · have kz : kk = 0 := by omega
    have LN := Lib.hid (List.length_eq_zero_iff.1 l0)
    subst kz
    go_wp2_with fail
    refine (SQ.out _ B1.out).mono ?_
    rintro e' V2 ⟨vb, rfl, hvb⟩
    have B2 := Lib.hid (below_next B1.out hvb.below)
    have RA2 := Lib.hid (RA1.out.below hvb.below)
    have RB2 := Lib.hid (hvb.rowS (by omega))
    obtain ⟨a_d, c_d, rfl⟩ := hvb.len
    clear hvb RA1 B1
    have nt1 : decide (n = []) = true := by rw [decide_eq_true_iff]; exact List.length_eq_zero_iff.1 (by omega)
    have PD : Hid (RowS V2 (.slice none 0 0) (l.drop 0)) := Lib.hid (by rw [LN.out]; exact RowS.nil _)
    have PT : Hid (RowS V2 (.slice none 0 0) (l.take 0)) := Lib.hid (by rw [LN.out]; exact RowS.nil _)
    have DL : (l.drop 0).length ≤ 20 := by rw [List.length_drop]; omega
    have TL : (l.take 0).length ≤ 20 := by rw [List.length_take]; omega
    have CO := Lib.hid (fun g va vb W hc hd h1 h2 => concat_two g va vb (l.drop 0) (l.take 0) (by omega) (by omega) W hc hd h1 h2)
    obtain ⟨CC, hCC⟩ : ∃ CC, l.drop 0 ++ l.take 0 = CC := ⟨_, rfl⟩
    have CL : CC.length ≤ 20 := by rw [← hCC, List.length_append, List.length_drop, List.length_take]; omega
    have CH := Lib.hid (fun t => show Bk.has CC t ↔ Bk.has l t by rw [← hCC]; exact Bk.turn_has l 0 t)
    have COK := Lib.hid (show Bk.OkS CC from fun y hy => by
      rw [← hCC] at hy
      rcases List.mem_append.1 hy with q | q
      · exact OLL.out y (List.mem_of_mem_drop q)
      · exact OLL.out y (List.mem_of_mem_take q))
    have CIN := Lib.hid (show ∀ y ∈ CC, 0 ≤ y.1 ∧ y.1 ≤ y.2 ∧ y.2 ≤ 199 from fun y hy => by
      rw [← hCC] at hy
      rcases List.mem_append.1 hy with q | q
      · exact SI.out y (List.mem_of_mem_drop q)
      · exact SI.out y (List.mem_of_mem_take q))
    rw [hCC] at CO
    clear hCC DL TL
    go_wp2_with fail
    go_region_held3 (fun _ => True) (trivial)
      (first | (go_at_call 34; refine (CO.out _ _ _ _ ?_ ?_ ((PD.out.drewN 1).alloc _) ((PT.out.drewN 1).alloc _)).mono ?_; exact (cell_pair _ _ (by simp) _ _ _).1; exact (cell_pair _ _ (by simp) _ _ _).2; rintro e' V3 ⟨uc, rfl, huc⟩; have HUC := Lib.hid huc; obtain ⟨a_k, c_k, rfl⟩ := huc.len; clear huc))
    all_goals
      have hUl := HUC.out.below
      have CROW := Lib.hid (HUC.out.rowS (by omega))
      have B3 := Lib.hid (below_next (below_new (below_drewN B2.out 1) _ (Nat.le_refl _)) hUl)
      have RA3 := Lib.hid (((RA2.out.drewN 1).alloc _).below hUl)
      have RB3 := Lib.hid (((RB2.out.drewN 1).alloc _).below hUl)
      have CT := Lib.hid (fun t => show Bk.has (Bk.cutTo e CC CC.length) t ↔ Bk.has l t by rw [Bk.cutTo_has HE.out.1 CC t _ (Nat.le_refl _), List.take_length]; exact CH.out t)
      have CK := Lib.hid (show Bk.errL (Bk.cutTo e CC CC.length) = 0 from Bk.errL_zero.2 ⟨by have := Bk.cutTo_len e CC CC.length; omega, Bk.cutTo_ok HE.out.1 COK.out _ (Nat.le_refl _)⟩)
      have e1 : c % 40 = e := by rw [← e2, Int.tmod_eq_emod_of_nonneg c0]
      clear hUl PD PT CO HUC RA2 RB2 B2 CH COK SP SQ OLL SI B0
      go_wp2_with fail
      go_loopw [10, 47] (fun ov iv wr => ∃ (k : Nat) (v : Value), k ≤ CC.length ∧ iv = .int .i64 k ∧ v = ov ∧ Hid (OwnS V3 v (Bk.cutTo e CC k) wr)) (fun _ iv _ => CC.length - (intOf iv).toNat)
      case atStart => exact ⟨0, _, by omega, rfl, rfl, Lib.hid (OwnS.nil (Below.refl _ _))⟩
      case round =>
        obtain ⟨k, v, hk, rfl, rfl, ho⟩ := hrel
        by_cases lt : k < CC.length
        · have e0 : decide ((k : Int) < (CC.length : Int)) = true := by rw [decide_eq_true_iff]; omega
          have wk : IntKind.i64.wrap ((k : Int) + 1) = (k : Int) + 1 := by rw [IntKind.wrap_i64]; omega
          have CL2 := Bk.cutTo_len e CC k
          have CS : Bk.cutTo e CC (k + 1) = Bk.cutTo e CC k ++ Bk.pieces e k (CC.getD k (0, 0)) := rfl
          have IN := CIN.out (CC.getD k (0, 0)) (by simp [lt])
          obtain ⟨b, o, e9, c1, c2⟩ := (CROW.out.below ho.out.below).at lt
          subst e9
          obtain ⟨y, hy⟩ : ∃ y, CC.getD k (0, 0) = y := ⟨_, rfl⟩
          rw [hy] at c1 c2 IN CS
          obtain ⟨y1, y2⟩ := y
          simp only at c1 c2 IN
          obtain ⟨R, hR⟩ : ∃ R, Bk.cutTo e CC k = R := ⟨_, rfl⟩
          rw [hR] at ho CS CL2
          have HS := Lib.hid CS
          obtain ⟨A5, c5, rfl⟩ := ho.out.len
          have hs := ho.out.below.size
          have ee := HE.out
          have u1 : IntKind.i64.wrap (y1 + e) = y1 + e := by rw [IntKind.wrap_i64]; omega
          have u2 : IntKind.i64.wrap (y1 + e + 1) = y1 + e + 1 := by rw [IntKind.wrap_i64]; omega
          have HO1 := Lib.hid (ho.out.alloc (.cells #[.int .i64 y1, .int .i64 y2] 27))
          clear hy CS hR ho IN ee
          by_cases ev : k % 2 = 0
          · have r1 : (k : Int) % 2 = 0 := by omega
            have r2 : (k : Int).tmod 2 = 0 := by rw [Int.tmod_eq_emod_of_nonneg (by omega)]; omega
            by_cases cut : y1 + e < y2
            · have d0 : decide (y1 + e < y2) = true := decide_eq_true cut
              have HP : Hid (Bk.pieces e k (y1, y2) = [(y1 + e + 1, y2), (y1, y1 + e)]) := Lib.hid (by unfold Bk.pieces; rw [if_pos (by simp only; omega)])
              clear ev cut
              go_wp2_with (at_builtin; refine wpList_append_own _ rfl _ _ 22 rfl V3.heap.size 27 i0 (.agg #[.int .i64 0, .int .i64 0]) 2 16 Try.underlying22 hi hz0 hz1 hz2 rfl (by decide) _ R.length _ rfl (HO1.out.row.alloc _) ⟨wr.heap.size + 1, 0, none⟩ 2 2 [.int .i64 (y1 + e + 1), .int .i64 (y2), .int .i64 (y1), .int .i64 (y1 + e)] rfl rfl (cells_new _ _ (by simp) [.int .i64 (y1 + e + 1), .int .i64 (y2), .int .i64 (y1), .int .i64 (y1 + e)] _) (by simp [Value.oneCell']) (by simp [maxLen]; omega) (by omega) (by simp; omega) ?_; intro v2 w2 hown hg2 _)
              have h2 := (HO1.out.alloc _).grow (m := [(y1 + e + 1, y2), (y1, y1 + e)]) (by simpa [encS] using hown) hg2
              rw [← HP.out, ← HS.out] at h2
              have H2 := Lib.hid h2
              clear h2 hown hg2
              go_wp2_with fail
              go_roundw
              case rel => exact ⟨k + 1, _, by omega, by go_num, rfl, H2⟩
              case measure => simp [intOf]; omega
            · have d0 : decide (y1 + e < y2) = false := decide_eq_false cut
              have HP : Hid (Bk.pieces e k (y1, y2) = [(y1, y2)]) := Lib.hid (by unfold Bk.pieces; rw [if_neg (by simp only; omega)])
              clear ev cut
              go_wp2_with (at_builtin; refine wpList_append_own _ rfl _ _ 22 rfl V3.heap.size 27 i0 (.agg #[.int .i64 0, .int .i64 0]) 2 16 Try.underlying22 hi hz0 hz1 hz2 rfl (by decide) _ R.length _ rfl (HO1.out.row.alloc _) ⟨wr.heap.size + 1, 0, none⟩ 1 1 [.int .i64 (y1), .int .i64 (y2)] rfl rfl (cells_new _ _ (by simp) [.int .i64 (y1), .int .i64 (y2)] _) (by simp [Value.oneCell']) (by simp [maxLen]; omega) (by omega) (by simp; omega) ?_; intro v2 w2 hown hg2 _)
              have h2 := (HO1.out.alloc _).grow (m := [(y1, y2)]) (by simpa [encS] using hown) hg2
              rw [← HP.out, ← HS.out] at h2
              have H2 := Lib.hid h2
              clear h2 hown hg2
              go_wp2_with fail
              go_roundw
              case rel => exact ⟨k + 1, _, by omega, by go_num, rfl, H2⟩
              case measure => simp [intOf]; omega
          · have r1 : (k : Int) % 2 = 1 := by omega
            have r2 : (k : Int).tmod 2 = 1 := by rw [Int.tmod_eq_emod_of_nonneg (by omega)]; omega
            have HP : Hid (Bk.pieces e k (y1, y2) = [(y1, y2)]) := Lib.hid (by unfold Bk.pieces; rw [if_neg (by simp only; omega)])
            clear ev
            go_wp2_with (at_builtin; refine wpList_append_own _ rfl _ _ 22 rfl V3.heap.size 27 i0 (.agg #[.int .i64 0, .int .i64 0]) 2 16 Try.underlying22 hi hz0 hz1 hz2 rfl (by decide) _ R.length _ rfl (HO1.out.row.alloc _) ⟨wr.heap.size + 1, 0, none⟩ 1 1 [.int .i64 (y1), .int .i64 (y2)] rfl rfl (cells_new _ _ (by simp) [.int .i64 (y1), .int .i64 (y2)] _) (by simp [Value.oneCell']) (by simp [maxLen]; omega) (by omega) (by simp; omega) ?_; intro v2 w2 hown hg2 _)
            have h2 := (HO1.out.alloc _).grow (m := [(y1, y2)]) (by simpa [encS] using hown) hg2
            rw [← HP.out, ← HS.out] at h2
            have H2 := Lib.hid h2
            clear h2 hown hg2
            go_wp2_with fail
            go_roundw
            case rel => exact ⟨k + 1, _, by omega, by go_num, rfl, H2⟩
            case measure => simp [intOf]; omega
        · have e0 : decide ((k : Int) < (CC.length : Int)) = false := by rw [decide_eq_false_iff_not]; omega
          obtain rfl : k = CC.length := by omega
          have CL2 := Bk.cutTo_len e CC CC.length
          obtain ⟨cc, hcc⟩ : ∃ cc, Bk.cutTo e CC CC.length = cc := ⟨_, rfl⟩
          rw [hcc] at ho CT CK CL2
          have EM := Lib.hid EL.out.2
          have HNC := Lib.hid (HN.out.same (a' := cc) (b' := []) (fun t => (CT.out t).symm) (fun t => Iff.rfl) CK.out Bk.errL_nil)
          have HUC := Lib.hid ((HU.out.same (a' := cc) (b' := m) (fun t => (CT.out t).symm) (fun t => Iff.rfl) CK.out EM.out).comm (.inl rfl))
          have HXC := Lib.hid ((HX.out.same (a' := cc) (b' := m) (fun t => (CT.out t).symm) (fun t => Iff.rfl) CK.out EM.out).comm (.inr rfl))
          have RC4 := Lib.hid (ho.out.rowS (by omega))
          have RA4 := Lib.hid (RA3.out.below ho.out.below)
          have RB4 := Lib.hid (RB3.out.below ho.out.below)
          have B4 := Lib.hid (below_next B3.out ho.out.below)
          obtain ⟨A5, c5, rfl⟩ := ho.out.len
          clear hcc ho lt hk CT CK RA3 RB3 B3 CROW CIN e1 e2
          go_wp2_with fail
          refine (normal_any _ l n 0 HN.out _ RA4.out).mono ?_
          rintro e V5 ⟨n0, rfl, h_n0⟩
          have B5 := Lib.hid (below_next B4.out h_n0.below)
          have RA5 := Lib.hid (RA4.out.below h_n0.below)
          have RB5 := Lib.hid (RB4.out.below h_n0.below)
          have RC5 := Lib.hid (RC4.out.below h_n0.below)
          have RN5 := Lib.hid (h_n0.rowS (by omega))
          obtain ⟨a_n0, c_n0, rfl⟩ := h_n0.len
          clear h_n0
          clear RA4 RB4 RC4 B4
          go_wp2_with fail
          refine (normal_any _ cc n 0 HNC.out _ RC5.out).mono ?_
          rintro e V6 ⟨o0, rfl, h_o0⟩
          have B6 := Lib.hid (below_next B5.out h_o0.below)
          have RA6 := Lib.hid (RA5.out.below h_o0.below)
          have RB6 := Lib.hid (RB5.out.below h_o0.below)
          have RC6 := Lib.hid (RC5.out.below h_o0.below)
          have RN6 := Lib.hid (RN5.out.below h_o0.below)
          have RO6 := Lib.hid (h_o0.rowS (by omega))
          obtain ⟨a_o0, c_o0, rfl⟩ := h_o0.len
          clear h_o0
          clear RA5 RB5 RC5 RN5 B5
          go_wp2_with fail
          refine (normal_any _ n n 0 HA.out _ RN6.out).mono ?_
          rintro e V7 ⟨g0, rfl, h_g0⟩
          have B7 := Lib.hid (below_next B6.out h_g0.below)
          have RA7 := Lib.hid (RA6.out.below h_g0.below)
          have RB7 := Lib.hid (RB6.out.below h_g0.below)
          have RC7 := Lib.hid (RC6.out.below h_g0.below)
          have RN7 := Lib.hid (RN6.out.below h_g0.below)
          have RO7 := Lib.hid (RO6.out.below h_g0.below)
          have RG7 := Lib.hid (h_g0.rowS (by omega))
          obtain ⟨a_g0, c_g0, rfl⟩ := h_g0.len
          clear h_g0
          clear RA6 RB6 RC6 RN6 RO6 B6
          go_wp2_with fail
          refine (union_any _ _ l m u 0 HU.out _ RA7.out RB7.out).mono ?_
          rintro e V8 ⟨u0, rfl, h_u0⟩
          have B8 := Lib.hid (below_next B7.out h_u0.below)
          have RA8 := Lib.hid (RA7.out.below h_u0.below)
          have RB8 := Lib.hid (RB7.out.below h_u0.below)
          have RC8 := Lib.hid (RC7.out.below h_u0.below)
          have RN8 := Lib.hid (RN7.out.below h_u0.below)
          have RO8 := Lib.hid (RO7.out.below h_u0.below)
          have RG8 := Lib.hid (RG7.out.below h_u0.below)
          have RU8 := Lib.hid (h_u0.rowS (by omega))
          obtain ⟨a_u0, c_u0, rfl⟩ := h_u0.len
          clear h_u0
          clear RA7 RB7 RC7 RN7 RO7 RG7 B7
          go_wp2_with fail
          refine (union_any _ _ m cc u 0 HUC.out _ RB8.out RC8.out).mono ?_
          rintro e V9 ⟨v0, rfl, h_v0⟩
          have B9 := Lib.hid (below_next B8.out h_v0.below)
          have RA9 := Lib.hid (RA8.out.below h_v0.below)
          have RB9 := Lib.hid (RB8.out.below h_v0.below)
          have RC9 := Lib.hid (RC8.out.below h_v0.below)
          have RN9 := Lib.hid (RN8.out.below h_v0.below)
          have RO9 := Lib.hid (RO8.out.below h_v0.below)
          have RG9 := Lib.hid (RG8.out.below h_v0.below)
          have RU9 := Lib.hid (RU8.out.below h_v0.below)
          have RV9 := Lib.hid (h_v0.rowS (by omega))
          obtain ⟨a_v0, c_v0, rfl⟩ := h_v0.len
          clear h_v0
          clear RA8 RB8 RC8 RN8 RO8 RG8 RU8 B8
          go_wp2_with fail
          refine (meet_any _ _ l m x 0 HX.out _ RA9.out RB9.out).mono ?_
          rintro e V10 ⟨x0, rfl, h_x0⟩
          have B10 := Lib.hid (below_next B9.out h_x0.below)
          have RA10 := Lib.hid (RA9.out.below h_x0.below)
          have RB10 := Lib.hid (RB9.out.below h_x0.below)
          have RC10 := Lib.hid (RC9.out.below h_x0.below)
          have RN10 := Lib.hid (RN9.out.below h_x0.below)
          have RO10 := Lib.hid (RO9.out.below h_x0.below)
          have RG10 := Lib.hid (RG9.out.below h_x0.below)
          have RU10 := Lib.hid (RU9.out.below h_x0.below)
          have RV10 := Lib.hid (RV9.out.below h_x0.below)
          have RX10 := Lib.hid (h_x0.rowS (by omega))
          obtain ⟨a_x0, c_x0, rfl⟩ := h_x0.len
          clear h_x0
          clear RA9 RB9 RC9 RN9 RO9 RG9 RU9 RV9 B9
          go_wp2_with fail
          refine (meet_any _ _ m cc x 0 HXC.out _ RB10.out RC10.out).mono ?_
          rintro e V11 ⟨y0, rfl, h_y0⟩
          have B11 := Lib.hid (below_next B10.out h_y0.below)
          have RA11 := Lib.hid (RA10.out.below h_y0.below)
          have RB11 := Lib.hid (RB10.out.below h_y0.below)
          have RC11 := Lib.hid (RC10.out.below h_y0.below)
          have RN11 := Lib.hid (RN10.out.below h_y0.below)
          have RO11 := Lib.hid (RO10.out.below h_y0.below)
          have RG11 := Lib.hid (RG10.out.below h_y0.below)
          have RU11 := Lib.hid (RU10.out.below h_y0.below)
          have RV11 := Lib.hid (RV10.out.below h_y0.below)
          have RX11 := Lib.hid (RX10.out.below h_y0.below)
          have RY11 := Lib.hid (h_y0.rowS (by omega))
          obtain ⟨a_y0, c_y0, rfl⟩ := h_y0.len
          clear h_y0
          clear RA10 RB10 RC10 RN10 RO10 RG10 RU10 RV10 RX10 B10
          go_wp2_with fail
          refine (equal_same _ _ n _ RN11.out RO11.out).mono ?_
          rintro e V12 ⟨rfl, b⟩
          have B12 := Lib.hid (below_next B11.out b)
          have RA12 := Lib.hid (RA11.out.below b)
          have RB12 := Lib.hid (RB11.out.below b)
          have RC12 := Lib.hid (RC11.out.below b)
          have RN12 := Lib.hid (RN11.out.below b)
          have RO12 := Lib.hid (RO11.out.below b)
          have RG12 := Lib.hid (RG11.out.below b)
          have RU12 := Lib.hid (RU11.out.below b)
          have RV12 := Lib.hid (RV11.out.below b)
          have RX12 := Lib.hid (RX11.out.below b)
          have RY12 := Lib.hid (RY11.out.below b)
          clear b
          clear RA11 RB11 RC11 RN11 RO11 RG11 RU11 RV11 RX11 RY11 B11
          go_wp2_with fail
          refine (equal_same _ _ n _ RG12.out RN12.out).mono ?_
          rintro e V13 ⟨rfl, b⟩
          have B13 := Lib.hid (below_next B12.out b)
          have RA13 := Lib.hid (RA12.out.below b)
          have RB13 := Lib.hid (RB12.out.below b)
          have RC13 := Lib.hid (RC12.out.below b)
          have RN13 := Lib.hid (RN12.out.below b)
          have RO13 := Lib.hid (RO12.out.below b)
          have RG13 := Lib.hid (RG12.out.below b)
          have RU13 := Lib.hid (RU12.out.below b)
          have RV13 := Lib.hid (RV12.out.below b)
          have RX13 := Lib.hid (RX12.out.below b)
          have RY13 := Lib.hid (RY12.out.below b)
          clear b
          clear RA12 RB12 RC12 RN12 RO12 RG12 RU12 RV12 RX12 RY12 B12
          go_wp2_with fail
          refine (equal_same _ _ u _ RU13.out RV13.out).mono ?_
          rintro e V14 ⟨rfl, b⟩
          have B14 := Lib.hid (below_next B13.out b)
          have RA14 := Lib.hid (RA13.out.below b)
          have RB14 := Lib.hid (RB13.out.below b)
          have RC14 := Lib.hid (RC13.out.below b)
          have RN14 := Lib.hid (RN13.out.below b)
          have RO14 := Lib.hid (RO13.out.below b)
          have RG14 := Lib.hid (RG13.out.below b)
          have RU14 := Lib.hid (RU13.out.below b)
          have RV14 := Lib.hid (RV13.out.below b)
          have RX14 := Lib.hid (RX13.out.below b)
          have RY14 := Lib.hid (RY13.out.below b)
          clear b
          clear RA13 RB13 RC13 RN13 RO13 RG13 RU13 RV13 RX13 RY13 B13
          go_wp2_with fail
          refine (equal_same _ _ x _ RX14.out RY14.out).mono ?_
          rintro e V15 ⟨rfl, b⟩
          have B15 := Lib.hid (below_next B14.out b)
          have RA15 := Lib.hid (RA14.out.below b)
          have RB15 := Lib.hid (RB14.out.below b)
          have RC15 := Lib.hid (RC14.out.below b)
          have RN15 := Lib.hid (RN14.out.below b)
          have RO15 := Lib.hid (RO14.out.below b)
          have RG15 := Lib.hid (RG14.out.below b)
          have RU15 := Lib.hid (RU14.out.below b)
          have RV15 := Lib.hid (RV14.out.below b)
          have RX15 := Lib.hid (RX14.out.below b)
          have RY15 := Lib.hid (RY14.out.below b)
          clear b
          clear RA14 RB14 RC14 RN14 RO14 RG14 RU14 RV14 RX14 RY14 B14
          go_wp2_with fail
          refine (works_any _).mono ?_
          rintro e V16 ⟨rfl, b⟩
          have B16 := Lib.hid (below_next B15.out b)
          have RA16 := Lib.hid (RA15.out.below b)
          have RB16 := Lib.hid (RB15.out.below b)
          have RC16 := Lib.hid (RC15.out.below b)
          have RN16 := Lib.hid (RN15.out.below b)
          have RO16 := Lib.hid (RO15.out.below b)
          have RG16 := Lib.hid (RG15.out.below b)
          have RU16 := Lib.hid (RU15.out.below b)
          have RV16 := Lib.hid (RV15.out.below b)
          have RX16 := Lib.hid (RX15.out.below b)
          have RY16 := Lib.hid (RY15.out.below b)
          clear b
          clear RA15 RB15 RC15 RN15 RO15 RG15 RU15 RV15 RX15 RY15 B15
          go_wp2_with fail
          go_ret
          exact ⟨rfl, B16.out⟩
  · by_cases full : kk = cp
    · have LF := Lib.hid (show l.length ≤ kk by omega)
      have kc : (kk : Int) ≤ (cp : Int) := by omega
      subst full
      go_wp2_with fail
      refine (SQ.out _ B1.out).mono ?_
      rintro e' V2 ⟨vb, rfl, hvb⟩
      have B2 := Lib.hid (below_next B1.out hvb.below)
      have RA2 := Lib.hid (RA1.out.below hvb.below)
      have RB2 := Lib.hid (hvb.rowS (by omega))
      obtain ⟨a_d, c_d, rfl⟩ := hvb.len
      clear hvb RA1 B1
      have PD := Lib.hid (part_full (W := V2) (b := g) (o := 0) (c := 0) LF.out)
      have PT := Lib.hid (part_row RA2.out kkl).1
      have DL : (l.drop kk).length ≤ 20 := by rw [List.length_drop]; omega
      have TL : (l.take kk).length ≤ 20 := by rw [List.length_take]; omega
      have CO := Lib.hid (fun g va vb W hc hd h1 h2 => concat_two g va vb (l.drop kk) (l.take kk) (by omega) (by omega) W hc hd h1 h2)
      obtain ⟨CC, hCC⟩ : ∃ CC, l.drop kk ++ l.take kk = CC := ⟨_, rfl⟩
      have CL : CC.length ≤ 20 := by rw [← hCC, List.length_append, List.length_drop, List.length_take]; omega
      have CH := Lib.hid (fun t => show Bk.has CC t ↔ Bk.has l t by rw [← hCC]; exact Bk.turn_has l kk t)
      have COK := Lib.hid (show Bk.OkS CC from fun y hy => by
        rw [← hCC] at hy
        rcases List.mem_append.1 hy with q | q
        · exact OLL.out y (List.mem_of_mem_drop q)
        · exact OLL.out y (List.mem_of_mem_take q))
      have CIN := Lib.hid (show ∀ y ∈ CC, 0 ≤ y.1 ∧ y.1 ≤ y.2 ∧ y.2 ≤ 199 from fun y hy => by
        rw [← hCC] at hy
        rcases List.mem_append.1 hy with q | q
        · exact SI.out y (List.mem_of_mem_drop q)
        · exact SI.out y (List.mem_of_mem_take q))
      rw [hCC] at CO
      clear hCC DL TL
      go_wp2_with fail
      go_region_held3 (fun _ => True) (trivial)
        (first | (go_at_call 34; refine (CO.out _ _ _ _ ?_ ?_ ((PD.out.drewN 1).alloc _) ((PT.out.drewN 1).alloc _)).mono ?_; exact (cell_pair _ _ (by simp) _ _ _).1; exact (cell_pair _ _ (by simp) _ _ _).2; rintro e' V3 ⟨uc, rfl, huc⟩; have HUC := Lib.hid huc; obtain ⟨a_k, c_k, rfl⟩ := huc.len; clear huc))
      all_goals
        have hUl := HUC.out.below
        have CROW := Lib.hid (HUC.out.rowS (by omega))
        have B3 := Lib.hid (below_next (below_new (below_drewN B2.out 1) _ (Nat.le_refl _)) hUl)
        have RA3 := Lib.hid (((RA2.out.drewN 1).alloc _).below hUl)
        have RB3 := Lib.hid (((RB2.out.drewN 1).alloc _).below hUl)
        have CT := Lib.hid (fun t => show Bk.has (Bk.cutTo e CC CC.length) t ↔ Bk.has l t by rw [Bk.cutTo_has HE.out.1 CC t _ (Nat.le_refl _), List.take_length]; exact CH.out t)
        have CK := Lib.hid (show Bk.errL (Bk.cutTo e CC CC.length) = 0 from Bk.errL_zero.2 ⟨by have := Bk.cutTo_len e CC CC.length; omega, Bk.cutTo_ok HE.out.1 COK.out _ (Nat.le_refl _)⟩)
        have e1 : c % 40 = e := by rw [← e2, Int.tmod_eq_emod_of_nonneg c0]
        clear hUl PD PT CO HUC RA2 RB2 B2 CH COK SP SQ OLL SI B0
        go_wp2_with fail
        go_loopw [10, 47] (fun ov iv wr => ∃ (k : Nat) (v : Value), k ≤ CC.length ∧ iv = .int .i64 k ∧ v = ov ∧ Hid (OwnS V3 v (Bk.cutTo e CC k) wr)) (fun _ iv _ => CC.length - (intOf iv).toNat)
        case atStart => exact ⟨0, _, by omega, rfl, rfl, Lib.hid (OwnS.nil (Below.refl _ _))⟩
        case round =>
          obtain ⟨k, v, hk, rfl, rfl, ho⟩ := hrel
          by_cases lt : k < CC.length
          · have e0 : decide ((k : Int) < (CC.length : Int)) = true := by rw [decide_eq_true_iff]; omega
            have wk : IntKind.i64.wrap ((k : Int) + 1) = (k : Int) + 1 := by rw [IntKind.wrap_i64]; omega
            have CL2 := Bk.cutTo_len e CC k
            have CS : Bk.cutTo e CC (k + 1) = Bk.cutTo e CC k ++ Bk.pieces e k (CC.getD k (0, 0)) := rfl
            have IN := CIN.out (CC.getD k (0, 0)) (by simp [lt])
            obtain ⟨b, o, e9, c1, c2⟩ := (CROW.out.below ho.out.below).at lt
            subst e9
            obtain ⟨y, hy⟩ : ∃ y, CC.getD k (0, 0) = y := ⟨_, rfl⟩
            rw [hy] at c1 c2 IN CS
            obtain ⟨y1, y2⟩ := y
            simp only at c1 c2 IN
            obtain ⟨R, hR⟩ : ∃ R, Bk.cutTo e CC k = R := ⟨_, rfl⟩
            rw [hR] at ho CS CL2
            have HS := Lib.hid CS
            obtain ⟨A5, c5, rfl⟩ := ho.out.len
            have hs := ho.out.below.size
            have ee := HE.out
            have u1 : IntKind.i64.wrap (y1 + e) = y1 + e := by rw [IntKind.wrap_i64]; omega
            have u2 : IntKind.i64.wrap (y1 + e + 1) = y1 + e + 1 := by rw [IntKind.wrap_i64]; omega
            have HO1 := Lib.hid (ho.out.alloc (.cells #[.int .i64 y1, .int .i64 y2] 27))
            clear hy CS hR ho IN ee
            by_cases ev : k % 2 = 0
            · have r1 : (k : Int) % 2 = 0 := by omega
              have r2 : (k : Int).tmod 2 = 0 := by rw [Int.tmod_eq_emod_of_nonneg (by omega)]; omega
              by_cases cut : y1 + e < y2
              · have d0 : decide (y1 + e < y2) = true := decide_eq_true cut
                have HP : Hid (Bk.pieces e k (y1, y2) = [(y1 + e + 1, y2), (y1, y1 + e)]) := Lib.hid (by unfold Bk.pieces; rw [if_pos (by simp only; omega)])
                clear ev cut
                go_wp2_with (at_builtin; refine wpList_append_own _ rfl _ _ 22 rfl V3.heap.size 27 i0 (.agg #[.int .i64 0, .int .i64 0]) 2 16 Try.underlying22 hi hz0 hz1 hz2 rfl (by decide) _ R.length _ rfl (HO1.out.row.alloc _) ⟨wr.heap.size + 1, 0, none⟩ 2 2 [.int .i64 (y1 + e + 1), .int .i64 (y2), .int .i64 (y1), .int .i64 (y1 + e)] rfl rfl (cells_new _ _ (by simp) [.int .i64 (y1 + e + 1), .int .i64 (y2), .int .i64 (y1), .int .i64 (y1 + e)] _) (by simp [Value.oneCell']) (by simp [maxLen]; omega) (by omega) (by simp; omega) ?_; intro v2 w2 hown hg2 _)
                have h2 := (HO1.out.alloc _).grow (m := [(y1 + e + 1, y2), (y1, y1 + e)]) (by simpa [encS] using hown) hg2
                rw [← HP.out, ← HS.out] at h2
                have H2 := Lib.hid h2
                clear h2 hown hg2
                go_wp2_with fail
                go_roundw
                case rel => exact ⟨k + 1, _, by omega, by go_num, rfl, H2⟩
                case measure => simp [intOf]; omega
              · have d0 : decide (y1 + e < y2) = false := decide_eq_false cut
                have HP : Hid (Bk.pieces e k (y1, y2) = [(y1, y2)]) := Lib.hid (by unfold Bk.pieces; rw [if_neg (by simp only; omega)])
                clear ev cut
                go_wp2_with (at_builtin; refine wpList_append_own _ rfl _ _ 22 rfl V3.heap.size 27 i0 (.agg #[.int .i64 0, .int .i64 0]) 2 16 Try.underlying22 hi hz0 hz1 hz2 rfl (by decide) _ R.length _ rfl (HO1.out.row.alloc _) ⟨wr.heap.size + 1, 0, none⟩ 1 1 [.int .i64 (y1), .int .i64 (y2)] rfl rfl (cells_new _ _ (by simp) [.int .i64 (y1), .int .i64 (y2)] _) (by simp [Value.oneCell']) (by simp [maxLen]; omega) (by omega) (by simp; omega) ?_; intro v2 w2 hown hg2 _)
                have h2 := (HO1.out.alloc _).grow (m := [(y1, y2)]) (by simpa [encS] using hown) hg2
                rw [← HP.out, ← HS.out] at h2
                have H2 := Lib.hid h2
                clear h2 hown hg2
                go_wp2_with fail
                go_roundw
                case rel => exact ⟨k + 1, _, by omega, by go_num, rfl, H2⟩
                case measure => simp [intOf]; omega
            · have r1 : (k : Int) % 2 = 1 := by omega
              have r2 : (k : Int).tmod 2 = 1 := by rw [Int.tmod_eq_emod_of_nonneg (by omega)]; omega
              have HP : Hid (Bk.pieces e k (y1, y2) = [(y1, y2)]) := Lib.hid (by unfold Bk.pieces; rw [if_neg (by simp only; omega)])
              clear ev
              go_wp2_with (at_builtin; refine wpList_append_own _ rfl _ _ 22 rfl V3.heap.size 27 i0 (.agg #[.int .i64 0, .int .i64 0]) 2 16 Try.underlying22 hi hz0 hz1 hz2 rfl (by decide) _ R.length _ rfl (HO1.out.row.alloc _) ⟨wr.heap.size + 1, 0, none⟩ 1 1 [.int .i64 (y1), .int .i64 (y2)] rfl rfl (cells_new _ _ (by simp) [.int .i64 (y1), .int .i64 (y2)] _) (by simp [Value.oneCell']) (by simp [maxLen]; omega) (by omega) (by simp; omega) ?_; intro v2 w2 hown hg2 _)
              have h2 := (HO1.out.alloc _).grow (m := [(y1, y2)]) (by simpa [encS] using hown) hg2
              rw [← HP.out, ← HS.out] at h2
              have H2 := Lib.hid h2
              clear h2 hown hg2
              go_wp2_with fail
              go_roundw
              case rel => exact ⟨k + 1, _, by omega, by go_num, rfl, H2⟩
              case measure => simp [intOf]; omega
          · have e0 : decide ((k : Int) < (CC.length : Int)) = false := by rw [decide_eq_false_iff_not]; omega
            obtain rfl : k = CC.length := by omega
            have CL2 := Bk.cutTo_len e CC CC.length
            obtain ⟨cc, hcc⟩ : ∃ cc, Bk.cutTo e CC CC.length = cc := ⟨_, rfl⟩
            rw [hcc] at ho CT CK CL2
            have EM := Lib.hid EL.out.2
            have HNC := Lib.hid (HN.out.same (a' := cc) (b' := []) (fun t => (CT.out t).symm) (fun t => Iff.rfl) CK.out Bk.errL_nil)
            have HUC := Lib.hid ((HU.out.same (a' := cc) (b' := m) (fun t => (CT.out t).symm) (fun t => Iff.rfl) CK.out EM.out).comm (.inl rfl))
            have HXC := Lib.hid ((HX.out.same (a' := cc) (b' := m) (fun t => (CT.out t).symm) (fun t => Iff.rfl) CK.out EM.out).comm (.inr rfl))
            have RC4 := Lib.hid (ho.out.rowS (by omega))
            have RA4 := Lib.hid (RA3.out.below ho.out.below)
            have RB4 := Lib.hid (RB3.out.below ho.out.below)
            have B4 := Lib.hid (below_next B3.out ho.out.below)
            obtain ⟨A5, c5, rfl⟩ := ho.out.len
            clear hcc ho lt hk CT CK RA3 RB3 B3 CROW CIN e1 e2
            go_wp2_with fail
            refine (normal_any _ l n 0 HN.out _ RA4.out).mono ?_
            rintro e V5 ⟨n0, rfl, h_n0⟩
            have B5 := Lib.hid (below_next B4.out h_n0.below)
            have RA5 := Lib.hid (RA4.out.below h_n0.below)
            have RB5 := Lib.hid (RB4.out.below h_n0.below)
            have RC5 := Lib.hid (RC4.out.below h_n0.below)
            have RN5 := Lib.hid (h_n0.rowS (by omega))
            obtain ⟨a_n0, c_n0, rfl⟩ := h_n0.len
            clear h_n0
            clear RA4 RB4 RC4 B4
            go_wp2_with fail
            refine (normal_any _ cc n 0 HNC.out _ RC5.out).mono ?_
            rintro e V6 ⟨o0, rfl, h_o0⟩
            have B6 := Lib.hid (below_next B5.out h_o0.below)
            have RA6 := Lib.hid (RA5.out.below h_o0.below)
            have RB6 := Lib.hid (RB5.out.below h_o0.below)
            have RC6 := Lib.hid (RC5.out.below h_o0.below)
            have RN6 := Lib.hid (RN5.out.below h_o0.below)
            have RO6 := Lib.hid (h_o0.rowS (by omega))
            obtain ⟨a_o0, c_o0, rfl⟩ := h_o0.len
            clear h_o0
            clear RA5 RB5 RC5 RN5 B5
            go_wp2_with fail
            refine (normal_any _ n n 0 HA.out _ RN6.out).mono ?_
            rintro e V7 ⟨g0, rfl, h_g0⟩
            have B7 := Lib.hid (below_next B6.out h_g0.below)
            have RA7 := Lib.hid (RA6.out.below h_g0.below)
            have RB7 := Lib.hid (RB6.out.below h_g0.below)
            have RC7 := Lib.hid (RC6.out.below h_g0.below)
            have RN7 := Lib.hid (RN6.out.below h_g0.below)
            have RO7 := Lib.hid (RO6.out.below h_g0.below)
            have RG7 := Lib.hid (h_g0.rowS (by omega))
            obtain ⟨a_g0, c_g0, rfl⟩ := h_g0.len
            clear h_g0
            clear RA6 RB6 RC6 RN6 RO6 B6
            go_wp2_with fail
            refine (union_any _ _ l m u 0 HU.out _ RA7.out RB7.out).mono ?_
            rintro e V8 ⟨u0, rfl, h_u0⟩
            have B8 := Lib.hid (below_next B7.out h_u0.below)
            have RA8 := Lib.hid (RA7.out.below h_u0.below)
            have RB8 := Lib.hid (RB7.out.below h_u0.below)
            have RC8 := Lib.hid (RC7.out.below h_u0.below)
            have RN8 := Lib.hid (RN7.out.below h_u0.below)
            have RO8 := Lib.hid (RO7.out.below h_u0.below)
            have RG8 := Lib.hid (RG7.out.below h_u0.below)
            have RU8 := Lib.hid (h_u0.rowS (by omega))
            obtain ⟨a_u0, c_u0, rfl⟩ := h_u0.len
            clear h_u0
            clear RA7 RB7 RC7 RN7 RO7 RG7 B7
            go_wp2_with fail
            refine (union_any _ _ m cc u 0 HUC.out _ RB8.out RC8.out).mono ?_
            rintro e V9 ⟨v0, rfl, h_v0⟩
            have B9 := Lib.hid (below_next B8.out h_v0.below)
            have RA9 := Lib.hid (RA8.out.below h_v0.below)
            have RB9 := Lib.hid (RB8.out.below h_v0.below)
            have RC9 := Lib.hid (RC8.out.below h_v0.below)
            have RN9 := Lib.hid (RN8.out.below h_v0.below)
            have RO9 := Lib.hid (RO8.out.below h_v0.below)
            have RG9 := Lib.hid (RG8.out.below h_v0.below)
            have RU9 := Lib.hid (RU8.out.below h_v0.below)
            have RV9 := Lib.hid (h_v0.rowS (by omega))
            obtain ⟨a_v0, c_v0, rfl⟩ := h_v0.len
            clear h_v0
            clear RA8 RB8 RC8 RN8 RO8 RG8 RU8 B8
            go_wp2_with fail
            refine (meet_any _ _ l m x 0 HX.out _ RA9.out RB9.out).mono ?_
            rintro e V10 ⟨x0, rfl, h_x0⟩
            have B10 := Lib.hid (below_next B9.out h_x0.below)
            have RA10 := Lib.hid (RA9.out.below h_x0.below)
            have RB10 := Lib.hid (RB9.out.below h_x0.below)
            have RC10 := Lib.hid (RC9.out.below h_x0.below)
            have RN10 := Lib.hid (RN9.out.below h_x0.below)
            have RO10 := Lib.hid (RO9.out.below h_x0.below)
            have RG10 := Lib.hid (RG9.out.below h_x0.below)
            have RU10 := Lib.hid (RU9.out.below h_x0.below)
            have RV10 := Lib.hid (RV9.out.below h_x0.below)
            have RX10 := Lib.hid (h_x0.rowS (by omega))
            obtain ⟨a_x0, c_x0, rfl⟩ := h_x0.len
            clear h_x0
            clear RA9 RB9 RC9 RN9 RO9 RG9 RU9 RV9 B9
            go_wp2_with fail
            refine (meet_any _ _ m cc x 0 HXC.out _ RB10.out RC10.out).mono ?_
            rintro e V11 ⟨y0, rfl, h_y0⟩
            have B11 := Lib.hid (below_next B10.out h_y0.below)
            have RA11 := Lib.hid (RA10.out.below h_y0.below)
            have RB11 := Lib.hid (RB10.out.below h_y0.below)
            have RC11 := Lib.hid (RC10.out.below h_y0.below)
            have RN11 := Lib.hid (RN10.out.below h_y0.below)
            have RO11 := Lib.hid (RO10.out.below h_y0.below)
            have RG11 := Lib.hid (RG10.out.below h_y0.below)
            have RU11 := Lib.hid (RU10.out.below h_y0.below)
            have RV11 := Lib.hid (RV10.out.below h_y0.below)
            have RX11 := Lib.hid (RX10.out.below h_y0.below)
            have RY11 := Lib.hid (h_y0.rowS (by omega))
            obtain ⟨a_y0, c_y0, rfl⟩ := h_y0.len
            clear h_y0
            clear RA10 RB10 RC10 RN10 RO10 RG10 RU10 RV10 RX10 B10
            go_wp2_with fail
            refine (equal_same _ _ n _ RN11.out RO11.out).mono ?_
            rintro e V12 ⟨rfl, b⟩
            have B12 := Lib.hid (below_next B11.out b)
            have RA12 := Lib.hid (RA11.out.below b)
            have RB12 := Lib.hid (RB11.out.below b)
            have RC12 := Lib.hid (RC11.out.below b)
            have RN12 := Lib.hid (RN11.out.below b)
            have RO12 := Lib.hid (RO11.out.below b)
            have RG12 := Lib.hid (RG11.out.below b)
            have RU12 := Lib.hid (RU11.out.below b)
            have RV12 := Lib.hid (RV11.out.below b)
            have RX12 := Lib.hid (RX11.out.below b)
            have RY12 := Lib.hid (RY11.out.below b)
            clear b
            clear RA11 RB11 RC11 RN11 RO11 RG11 RU11 RV11 RX11 RY11 B11
            go_wp2_with fail
            refine (equal_same _ _ n _ RG12.out RN12.out).mono ?_
            rintro e V13 ⟨rfl, b⟩
            have B13 := Lib.hid (below_next B12.out b)
            have RA13 := Lib.hid (RA12.out.below b)
            have RB13 := Lib.hid (RB12.out.below b)
            have RC13 := Lib.hid (RC12.out.below b)
            have RN13 := Lib.hid (RN12.out.below b)
            have RO13 := Lib.hid (RO12.out.below b)
            have RG13 := Lib.hid (RG12.out.below b)
            have RU13 := Lib.hid (RU12.out.below b)
            have RV13 := Lib.hid (RV12.out.below b)
            have RX13 := Lib.hid (RX12.out.below b)
            have RY13 := Lib.hid (RY12.out.below b)
            clear b
            clear RA12 RB12 RC12 RN12 RO12 RG12 RU12 RV12 RX12 RY12 B12
            go_wp2_with fail
            refine (equal_same _ _ u _ RU13.out RV13.out).mono ?_
            rintro e V14 ⟨rfl, b⟩
            have B14 := Lib.hid (below_next B13.out b)
            have RA14 := Lib.hid (RA13.out.below b)
            have RB14 := Lib.hid (RB13.out.below b)
            have RC14 := Lib.hid (RC13.out.below b)
            have RN14 := Lib.hid (RN13.out.below b)
            have RO14 := Lib.hid (RO13.out.below b)
            have RG14 := Lib.hid (RG13.out.below b)
            have RU14 := Lib.hid (RU13.out.below b)
            have RV14 := Lib.hid (RV13.out.below b)
            have RX14 := Lib.hid (RX13.out.below b)
            have RY14 := Lib.hid (RY13.out.below b)
            clear b
            clear RA13 RB13 RC13 RN13 RO13 RG13 RU13 RV13 RX13 RY13 B13
            go_wp2_with fail
            refine (equal_same _ _ x _ RX14.out RY14.out).mono ?_
            rintro e V15 ⟨rfl, b⟩
            have B15 := Lib.hid (below_next B14.out b)
            have RA15 := Lib.hid (RA14.out.below b)
            have RB15 := Lib.hid (RB14.out.below b)
            have RC15 := Lib.hid (RC14.out.below b)
            have RN15 := Lib.hid (RN14.out.below b)
            have RO15 := Lib.hid (RO14.out.below b)
            have RG15 := Lib.hid (RG14.out.below b)
            have RU15 := Lib.hid (RU14.out.below b)
            have RV15 := Lib.hid (RV14.out.below b)
            have RX15 := Lib.hid (RX14.out.below b)
            have RY15 := Lib.hid (RY14.out.below b)
            clear b
            clear RA14 RB14 RC14 RN14 RO14 RG14 RU14 RV14 RX14 RY14 B14
            go_wp2_with fail
            refine (works_any _).mono ?_
            rintro e V16 ⟨rfl, b⟩
            have B16 := Lib.hid (below_next B15.out b)
            have RA16 := Lib.hid (RA15.out.below b)
            have RB16 := Lib.hid (RB15.out.below b)
            have RC16 := Lib.hid (RC15.out.below b)
            have RN16 := Lib.hid (RN15.out.below b)
            have RO16 := Lib.hid (RO15.out.below b)
            have RG16 := Lib.hid (RG15.out.below b)
            have RU16 := Lib.hid (RU15.out.below b)
            have RV16 := Lib.hid (RV15.out.below b)
            have RX16 := Lib.hid (RX15.out.below b)
            have RY16 := Lib.hid (RY15.out.below b)
            clear b
            clear RA15 RB15 RC15 RN15 RO15 RG15 RU15 RV15 RX15 RY15 B15
            go_wp2_with fail
            go_ret
            exact ⟨rfl, B16.out⟩
    · have kc : (kk : Int) ≤ (cp : Int) := by omega
      have kc2 : ¬ cp = kk := fun q => full q.symm
      go_wp2_with fail
      refine (SQ.out _ B1.out).mono ?_
      rintro e' V2 ⟨vb, rfl, hvb⟩
      have B2 := Lib.hid (below_next B1.out hvb.below)
      have RA2 := Lib.hid (RA1.out.below hvb.below)
      have RB2 := Lib.hid (hvb.rowS (by omega))
      obtain ⟨a_d, c_d, rfl⟩ := hvb.len
      clear hvb RA1 B1
      have PD := Lib.hid (part_row RA2.out kkl).2
      have PT := Lib.hid (part_row RA2.out kkl).1
      have DL : (l.drop kk).length ≤ 20 := by rw [List.length_drop]; omega
      have TL : (l.take kk).length ≤ 20 := by rw [List.length_take]; omega
      have CO := Lib.hid (fun g va vb W hc hd h1 h2 => concat_two g va vb (l.drop kk) (l.take kk) (by omega) (by omega) W hc hd h1 h2)
      obtain ⟨CC, hCC⟩ : ∃ CC, l.drop kk ++ l.take kk = CC := ⟨_, rfl⟩
      have CL : CC.length ≤ 20 := by rw [← hCC, List.length_append, List.length_drop, List.length_take]; omega
      have CH := Lib.hid (fun t => show Bk.has CC t ↔ Bk.has l t by rw [← hCC]; exact Bk.turn_has l kk t)
      have COK := Lib.hid (show Bk.OkS CC from fun y hy => by
        rw [← hCC] at hy
        rcases List.mem_append.1 hy with q | q
        · exact OLL.out y (List.mem_of_mem_drop q)
        · exact OLL.out y (List.mem_of_mem_take q))
      have CIN := Lib.hid (show ∀ y ∈ CC, 0 ≤ y.1 ∧ y.1 ≤ y.2 ∧ y.2 ≤ 199 from fun y hy => by
        rw [← hCC] at hy
        rcases List.mem_append.1 hy with q | q
        · exact SI.out y (List.mem_of_mem_drop q)
        · exact SI.out y (List.mem_of_mem_take q))
      rw [hCC] at CO
      clear hCC DL TL
      go_wp2_with fail
      go_region_held3 (fun _ => True) (trivial)
        (first | (go_at_call 34; refine (CO.out _ _ _ _ ?_ ?_ ((PD.out.drewN 1).alloc _) ((PT.out.drewN 1).alloc _)).mono ?_; exact (cell_pair _ _ (by simp) _ _ _).1; exact (cell_pair _ _ (by simp) _ _ _).2; rintro e' V3 ⟨uc, rfl, huc⟩; have HUC := Lib.hid huc; obtain ⟨a_k, c_k, rfl⟩ := huc.len; clear huc))
      all_goals
        have hUl := HUC.out.below
        have CROW := Lib.hid (HUC.out.rowS (by omega))
        have B3 := Lib.hid (below_next (below_new (below_drewN B2.out 1) _ (Nat.le_refl _)) hUl)
        have RA3 := Lib.hid (((RA2.out.drewN 1).alloc _).below hUl)
        have RB3 := Lib.hid (((RB2.out.drewN 1).alloc _).below hUl)
        have CT := Lib.hid (fun t => show Bk.has (Bk.cutTo e CC CC.length) t ↔ Bk.has l t by rw [Bk.cutTo_has HE.out.1 CC t _ (Nat.le_refl _), List.take_length]; exact CH.out t)
        have CK := Lib.hid (show Bk.errL (Bk.cutTo e CC CC.length) = 0 from Bk.errL_zero.2 ⟨by have := Bk.cutTo_len e CC CC.length; omega, Bk.cutTo_ok HE.out.1 COK.out _ (Nat.le_refl _)⟩)
        have e1 : c % 40 = e := by rw [← e2, Int.tmod_eq_emod_of_nonneg c0]
        clear hUl PD PT CO HUC RA2 RB2 B2 CH COK SP SQ OLL SI B0
        go_wp2_with fail
        go_loopw [10, 47] (fun ov iv wr => ∃ (k : Nat) (v : Value), k ≤ CC.length ∧ iv = .int .i64 k ∧ v = ov ∧ Hid (OwnS V3 v (Bk.cutTo e CC k) wr)) (fun _ iv _ => CC.length - (intOf iv).toNat)
        case atStart => exact ⟨0, _, by omega, rfl, rfl, Lib.hid (OwnS.nil (Below.refl _ _))⟩
        case round =>
          obtain ⟨k, v, hk, rfl, rfl, ho⟩ := hrel
          by_cases lt : k < CC.length
          · have e0 : decide ((k : Int) < (CC.length : Int)) = true := by rw [decide_eq_true_iff]; omega
            have wk : IntKind.i64.wrap ((k : Int) + 1) = (k : Int) + 1 := by rw [IntKind.wrap_i64]; omega
            have CL2 := Bk.cutTo_len e CC k
            have CS : Bk.cutTo e CC (k + 1) = Bk.cutTo e CC k ++ Bk.pieces e k (CC.getD k (0, 0)) := rfl
            have IN := CIN.out (CC.getD k (0, 0)) (by simp [lt])
            obtain ⟨b, o, e9, c1, c2⟩ := (CROW.out.below ho.out.below).at lt
            subst e9
            obtain ⟨y, hy⟩ : ∃ y, CC.getD k (0, 0) = y := ⟨_, rfl⟩
            rw [hy] at c1 c2 IN CS
            obtain ⟨y1, y2⟩ := y
            simp only at c1 c2 IN
            obtain ⟨R, hR⟩ : ∃ R, Bk.cutTo e CC k = R := ⟨_, rfl⟩
            rw [hR] at ho CS CL2
            have HS := Lib.hid CS
            obtain ⟨A5, c5, rfl⟩ := ho.out.len
            have hs := ho.out.below.size
            have ee := HE.out
            have u1 : IntKind.i64.wrap (y1 + e) = y1 + e := by rw [IntKind.wrap_i64]; omega
            have u2 : IntKind.i64.wrap (y1 + e + 1) = y1 + e + 1 := by rw [IntKind.wrap_i64]; omega
            have HO1 := Lib.hid (ho.out.alloc (.cells #[.int .i64 y1, .int .i64 y2] 27))
            clear hy CS hR ho IN ee
            by_cases ev : k % 2 = 0
            · have r1 : (k : Int) % 2 = 0 := by omega
              have r2 : (k : Int).tmod 2 = 0 := by rw [Int.tmod_eq_emod_of_nonneg (by omega)]; omega
              by_cases cut : y1 + e < y2
              · have d0 : decide (y1 + e < y2) = true := decide_eq_true cut
                have HP : Hid (Bk.pieces e k (y1, y2) = [(y1 + e + 1, y2), (y1, y1 + e)]) := Lib.hid (by unfold Bk.pieces; rw [if_pos (by simp only; omega)])
                clear ev cut
                go_wp2_with (at_builtin; refine wpList_append_own _ rfl _ _ 22 rfl V3.heap.size 27 i0 (.agg #[.int .i64 0, .int .i64 0]) 2 16 Try.underlying22 hi hz0 hz1 hz2 rfl (by decide) _ R.length _ rfl (HO1.out.row.alloc _) ⟨wr.heap.size + 1, 0, none⟩ 2 2 [.int .i64 (y1 + e + 1), .int .i64 (y2), .int .i64 (y1), .int .i64 (y1 + e)] rfl rfl (cells_new _ _ (by simp) [.int .i64 (y1 + e + 1), .int .i64 (y2), .int .i64 (y1), .int .i64 (y1 + e)] _) (by simp [Value.oneCell']) (by simp [maxLen]; omega) (by omega) (by simp; omega) ?_; intro v2 w2 hown hg2 _)
                have h2 := (HO1.out.alloc _).grow (m := [(y1 + e + 1, y2), (y1, y1 + e)]) (by simpa [encS] using hown) hg2
                rw [← HP.out, ← HS.out] at h2
                have H2 := Lib.hid h2
                clear h2 hown hg2
                go_wp2_with fail
                go_roundw
                case rel => exact ⟨k + 1, _, by omega, by go_num, rfl, H2⟩
                case measure => simp [intOf]; omega
              · have d0 : decide (y1 + e < y2) = false := decide_eq_false cut
                have HP : Hid (Bk.pieces e k (y1, y2) = [(y1, y2)]) := Lib.hid (by unfold Bk.pieces; rw [if_neg (by simp only; omega)])
                clear ev cut
                go_wp2_with (at_builtin; refine wpList_append_own _ rfl _ _ 22 rfl V3.heap.size 27 i0 (.agg #[.int .i64 0, .int .i64 0]) 2 16 Try.underlying22 hi hz0 hz1 hz2 rfl (by decide) _ R.length _ rfl (HO1.out.row.alloc _) ⟨wr.heap.size + 1, 0, none⟩ 1 1 [.int .i64 (y1), .int .i64 (y2)] rfl rfl (cells_new _ _ (by simp) [.int .i64 (y1), .int .i64 (y2)] _) (by simp [Value.oneCell']) (by simp [maxLen]; omega) (by omega) (by simp; omega) ?_; intro v2 w2 hown hg2 _)
                have h2 := (HO1.out.alloc _).grow (m := [(y1, y2)]) (by simpa [encS] using hown) hg2
                rw [← HP.out, ← HS.out] at h2
                have H2 := Lib.hid h2
                clear h2 hown hg2
                go_wp2_with fail
                go_roundw
                case rel => exact ⟨k + 1, _, by omega, by go_num, rfl, H2⟩
                case measure => simp [intOf]; omega
            · have r1 : (k : Int) % 2 = 1 := by omega
              have r2 : (k : Int).tmod 2 = 1 := by rw [Int.tmod_eq_emod_of_nonneg (by omega)]; omega
              have HP : Hid (Bk.pieces e k (y1, y2) = [(y1, y2)]) := Lib.hid (by unfold Bk.pieces; rw [if_neg (by simp only; omega)])
              clear ev
              go_wp2_with (at_builtin; refine wpList_append_own _ rfl _ _ 22 rfl V3.heap.size 27 i0 (.agg #[.int .i64 0, .int .i64 0]) 2 16 Try.underlying22 hi hz0 hz1 hz2 rfl (by decide) _ R.length _ rfl (HO1.out.row.alloc _) ⟨wr.heap.size + 1, 0, none⟩ 1 1 [.int .i64 (y1), .int .i64 (y2)] rfl rfl (cells_new _ _ (by simp) [.int .i64 (y1), .int .i64 (y2)] _) (by simp [Value.oneCell']) (by simp [maxLen]; omega) (by omega) (by simp; omega) ?_; intro v2 w2 hown hg2 _)
              have h2 := (HO1.out.alloc _).grow (m := [(y1, y2)]) (by simpa [encS] using hown) hg2
              rw [← HP.out, ← HS.out] at h2
              have H2 := Lib.hid h2
              clear h2 hown hg2
              go_wp2_with fail
              go_roundw
              case rel => exact ⟨k + 1, _, by omega, by go_num, rfl, H2⟩
              case measure => simp [intOf]; omega
          · have e0 : decide ((k : Int) < (CC.length : Int)) = false := by rw [decide_eq_false_iff_not]; omega
            obtain rfl : k = CC.length := by omega
            have CL2 := Bk.cutTo_len e CC CC.length
            obtain ⟨cc, hcc⟩ : ∃ cc, Bk.cutTo e CC CC.length = cc := ⟨_, rfl⟩
            rw [hcc] at ho CT CK CL2
            have EM := Lib.hid EL.out.2
            have HNC := Lib.hid (HN.out.same (a' := cc) (b' := []) (fun t => (CT.out t).symm) (fun t => Iff.rfl) CK.out Bk.errL_nil)
            have HUC := Lib.hid ((HU.out.same (a' := cc) (b' := m) (fun t => (CT.out t).symm) (fun t => Iff.rfl) CK.out EM.out).comm (.inl rfl))
            have HXC := Lib.hid ((HX.out.same (a' := cc) (b' := m) (fun t => (CT.out t).symm) (fun t => Iff.rfl) CK.out EM.out).comm (.inr rfl))
            have RC4 := Lib.hid (ho.out.rowS (by omega))
            have RA4 := Lib.hid (RA3.out.below ho.out.below)
            have RB4 := Lib.hid (RB3.out.below ho.out.below)
            have B4 := Lib.hid (below_next B3.out ho.out.below)
            obtain ⟨A5, c5, rfl⟩ := ho.out.len
            clear hcc ho lt hk CT CK RA3 RB3 B3 CROW CIN e1 e2
            go_wp2_with fail
            refine (normal_any _ l n 0 HN.out _ RA4.out).mono ?_
            rintro e V5 ⟨n0, rfl, h_n0⟩
            have B5 := Lib.hid (below_next B4.out h_n0.below)
            have RA5 := Lib.hid (RA4.out.below h_n0.below)
            have RB5 := Lib.hid (RB4.out.below h_n0.below)
            have RC5 := Lib.hid (RC4.out.below h_n0.below)
            have RN5 := Lib.hid (h_n0.rowS (by omega))
            obtain ⟨a_n0, c_n0, rfl⟩ := h_n0.len
            clear h_n0
            clear RA4 RB4 RC4 B4
            go_wp2_with fail
            refine (normal_any _ cc n 0 HNC.out _ RC5.out).mono ?_
            rintro e V6 ⟨o0, rfl, h_o0⟩
            have B6 := Lib.hid (below_next B5.out h_o0.below)
            have RA6 := Lib.hid (RA5.out.below h_o0.below)
            have RB6 := Lib.hid (RB5.out.below h_o0.below)
            have RC6 := Lib.hid (RC5.out.below h_o0.below)
            have RN6 := Lib.hid (RN5.out.below h_o0.below)
            have RO6 := Lib.hid (h_o0.rowS (by omega))
            obtain ⟨a_o0, c_o0, rfl⟩ := h_o0.len
            clear h_o0
            clear RA5 RB5 RC5 RN5 B5
            go_wp2_with fail
            refine (normal_any _ n n 0 HA.out _ RN6.out).mono ?_
            rintro e V7 ⟨g0, rfl, h_g0⟩
            have B7 := Lib.hid (below_next B6.out h_g0.below)
            have RA7 := Lib.hid (RA6.out.below h_g0.below)
            have RB7 := Lib.hid (RB6.out.below h_g0.below)
            have RC7 := Lib.hid (RC6.out.below h_g0.below)
            have RN7 := Lib.hid (RN6.out.below h_g0.below)
            have RO7 := Lib.hid (RO6.out.below h_g0.below)
            have RG7 := Lib.hid (h_g0.rowS (by omega))
            obtain ⟨a_g0, c_g0, rfl⟩ := h_g0.len
            clear h_g0
            clear RA6 RB6 RC6 RN6 RO6 B6
            go_wp2_with fail
            refine (union_any _ _ l m u 0 HU.out _ RA7.out RB7.out).mono ?_
            rintro e V8 ⟨u0, rfl, h_u0⟩
            have B8 := Lib.hid (below_next B7.out h_u0.below)
            have RA8 := Lib.hid (RA7.out.below h_u0.below)
            have RB8 := Lib.hid (RB7.out.below h_u0.below)
            have RC8 := Lib.hid (RC7.out.below h_u0.below)
            have RN8 := Lib.hid (RN7.out.below h_u0.below)
            have RO8 := Lib.hid (RO7.out.below h_u0.below)
            have RG8 := Lib.hid (RG7.out.below h_u0.below)
            have RU8 := Lib.hid (h_u0.rowS (by omega))
            obtain ⟨a_u0, c_u0, rfl⟩ := h_u0.len
            clear h_u0
            clear RA7 RB7 RC7 RN7 RO7 RG7 B7
            go_wp2_with fail
            refine (union_any _ _ m cc u 0 HUC.out _ RB8.out RC8.out).mono ?_
            rintro e V9 ⟨v0, rfl, h_v0⟩
            have B9 := Lib.hid (below_next B8.out h_v0.below)
            have RA9 := Lib.hid (RA8.out.below h_v0.below)
            have RB9 := Lib.hid (RB8.out.below h_v0.below)
            have RC9 := Lib.hid (RC8.out.below h_v0.below)
            have RN9 := Lib.hid (RN8.out.below h_v0.below)
            have RO9 := Lib.hid (RO8.out.below h_v0.below)
            have RG9 := Lib.hid (RG8.out.below h_v0.below)
            have RU9 := Lib.hid (RU8.out.below h_v0.below)
            have RV9 := Lib.hid (h_v0.rowS (by omega))
            obtain ⟨a_v0, c_v0, rfl⟩ := h_v0.len
            clear h_v0
            clear RA8 RB8 RC8 RN8 RO8 RG8 RU8 B8
            go_wp2_with fail
            refine (meet_any _ _ l m x 0 HX.out _ RA9.out RB9.out).mono ?_
            rintro e V10 ⟨x0, rfl, h_x0⟩
            have B10 := Lib.hid (below_next B9.out h_x0.below)
            have RA10 := Lib.hid (RA9.out.below h_x0.below)
            have RB10 := Lib.hid (RB9.out.below h_x0.below)
            have RC10 := Lib.hid (RC9.out.below h_x0.below)
            have RN10 := Lib.hid (RN9.out.below h_x0.below)
            have RO10 := Lib.hid (RO9.out.below h_x0.below)
            have RG10 := Lib.hid (RG9.out.below h_x0.below)
            have RU10 := Lib.hid (RU9.out.below h_x0.below)
            have RV10 := Lib.hid (RV9.out.below h_x0.below)
            have RX10 := Lib.hid (h_x0.rowS (by omega))
            obtain ⟨a_x0, c_x0, rfl⟩ := h_x0.len
            clear h_x0
            clear RA9 RB9 RC9 RN9 RO9 RG9 RU9 RV9 B9
            go_wp2_with fail
            refine (meet_any _ _ m cc x 0 HXC.out _ RB10.out RC10.out).mono ?_
            rintro e V11 ⟨y0, rfl, h_y0⟩
            have B11 := Lib.hid (below_next B10.out h_y0.below)
            have RA11 := Lib.hid (RA10.out.below h_y0.below)
            have RB11 := Lib.hid (RB10.out.below h_y0.below)
            have RC11 := Lib.hid (RC10.out.below h_y0.below)
            have RN11 := Lib.hid (RN10.out.below h_y0.below)
            have RO11 := Lib.hid (RO10.out.below h_y0.below)
            have RG11 := Lib.hid (RG10.out.below h_y0.below)
            have RU11 := Lib.hid (RU10.out.below h_y0.below)
            have RV11 := Lib.hid (RV10.out.below h_y0.below)
            have RX11 := Lib.hid (RX10.out.below h_y0.below)
            have RY11 := Lib.hid (h_y0.rowS (by omega))
            obtain ⟨a_y0, c_y0, rfl⟩ := h_y0.len
            clear h_y0
            clear RA10 RB10 RC10 RN10 RO10 RG10 RU10 RV10 RX10 B10
            go_wp2_with fail
            refine (equal_same _ _ n _ RN11.out RO11.out).mono ?_
            rintro e V12 ⟨rfl, b⟩
            have B12 := Lib.hid (below_next B11.out b)
            have RA12 := Lib.hid (RA11.out.below b)
            have RB12 := Lib.hid (RB11.out.below b)
            have RC12 := Lib.hid (RC11.out.below b)
            have RN12 := Lib.hid (RN11.out.below b)
            have RO12 := Lib.hid (RO11.out.below b)
            have RG12 := Lib.hid (RG11.out.below b)
            have RU12 := Lib.hid (RU11.out.below b)
            have RV12 := Lib.hid (RV11.out.below b)
            have RX12 := Lib.hid (RX11.out.below b)
            have RY12 := Lib.hid (RY11.out.below b)
            clear b
            clear RA11 RB11 RC11 RN11 RO11 RG11 RU11 RV11 RX11 RY11 B11
            go_wp2_with fail
            refine (equal_same _ _ n _ RG12.out RN12.out).mono ?_
            rintro e V13 ⟨rfl, b⟩
            have B13 := Lib.hid (below_next B12.out b)
            have RA13 := Lib.hid (RA12.out.below b)
            have RB13 := Lib.hid (RB12.out.below b)
            have RC13 := Lib.hid (RC12.out.below b)
            have RN13 := Lib.hid (RN12.out.below b)
            have RO13 := Lib.hid (RO12.out.below b)
            have RG13 := Lib.hid (RG12.out.below b)
            have RU13 := Lib.hid (RU12.out.below b)
            have RV13 := Lib.hid (RV12.out.below b)
            have RX13 := Lib.hid (RX12.out.below b)
            have RY13 := Lib.hid (RY12.out.below b)
            clear b
            clear RA12 RB12 RC12 RN12 RO12 RG12 RU12 RV12 RX12 RY12 B12
            go_wp2_with fail
            refine (equal_same _ _ u _ RU13.out RV13.out).mono ?_
            rintro e V14 ⟨rfl, b⟩
            have B14 := Lib.hid (below_next B13.out b)
            have RA14 := Lib.hid (RA13.out.below b)
            have RB14 := Lib.hid (RB13.out.below b)
            have RC14 := Lib.hid (RC13.out.below b)
            have RN14 := Lib.hid (RN13.out.below b)
            have RO14 := Lib.hid (RO13.out.below b)
            have RG14 := Lib.hid (RG13.out.below b)
            have RU14 := Lib.hid (RU13.out.below b)
            have RV14 := Lib.hid (RV13.out.below b)
            have RX14 := Lib.hid (RX13.out.below b)
            have RY14 := Lib.hid (RY13.out.below b)
            clear b
            clear RA13 RB13 RC13 RN13 RO13 RG13 RU13 RV13 RX13 RY13 B13
            go_wp2_with fail
            refine (equal_same _ _ x _ RX14.out RY14.out).mono ?_
            rintro e V15 ⟨rfl, b⟩
            have B15 := Lib.hid (below_next B14.out b)
            have RA15 := Lib.hid (RA14.out.below b)
            have RB15 := Lib.hid (RB14.out.below b)
            have RC15 := Lib.hid (RC14.out.below b)
            have RN15 := Lib.hid (RN14.out.below b)
            have RO15 := Lib.hid (RO14.out.below b)
            have RG15 := Lib.hid (RG14.out.below b)
            have RU15 := Lib.hid (RU14.out.below b)
            have RV15 := Lib.hid (RV14.out.below b)
            have RX15 := Lib.hid (RX14.out.below b)
            have RY15 := Lib.hid (RY14.out.below b)
            clear b
            clear RA14 RB14 RC14 RN14 RO14 RG14 RU14 RV14 RX14 RY14 B14
            go_wp2_with fail
            refine (works_any _).mono ?_
            rintro e V16 ⟨rfl, b⟩
            have B16 := Lib.hid (below_next B15.out b)
            have RA16 := Lib.hid (RA15.out.below b)
            have RB16 := Lib.hid (RB15.out.below b)
            have RC16 := Lib.hid (RC15.out.below b)
            have RN16 := Lib.hid (RN15.out.below b)
            have RO16 := Lib.hid (RO15.out.below b)
            have RG16 := Lib.hid (RG15.out.below b)
            have RU16 := Lib.hid (RU15.out.below b)
            have RV16 := Lib.hid (RV15.out.below b)
            have RX16 := Lib.hid (RX15.out.below b)
            have RY16 := Lib.hid (RY15.out.below b)
            clear b
            clear RA15 RB15 RC15 RN15 RO15 RG15 RU15 RV15 RX15 RY15 B15
            go_wp2_with fail
            go_ret
            exact ⟨rfl, B16.out⟩

set_option maxRecDepth 100000 in
theorem lifted (os : Os) (started : os.Started) (H : Type) (enc : TypeId × Value → H) :
    ReturnsInHanded {} Try.checked os 8 .any (Rows.blackoutOrderSpec.pre6 enc Try.prog Try.f8 Rows.blackoutOrderRow.domain false) (Rows.blackoutOrderSpec.post enc Try.prog Try.f8 false true false false) := by
  refine returnsInHanded_of_change (C := Try.checked) own started (by kernel_rfl) Try.func8
    (ChangeSpec.witness6 (enc := enc) (C := Try.checked) false ⟨#[], #[.slice none 0 0, .slice none 0 0, .int .u8 0], []⟩ 8 (by kernel_rfl) (by kernel_rfl) (by kernel_rfl) (by kernel_rfl)) ?_
  intro W base args ds gs before hval0 hW hcnd _
  have hval : ∀ (j : Nat) t v, Try.f8.params[j]? = some t → args[j]? = some v → Value.okWide Try.prog W .any base t v := hval0
  have hW' := hW
  obtain ⟨p, q, hA0, hV, rfl, hfz, hnd⟩ := hW
  have hA : DataW.TrodAll enc Try.prog W 0 (fun _ => true) true Try.f8.params.toList args.toList ds p := hA0
  rw [Try.params8] at hA hval
  obtain ⟨v0, vs0, d0, ds0, p0, q0, hargs, rfl, rfl, h0, r0⟩ := trodAll_cons hA
  obtain ⟨v1, vs1, d1, ds1, p1, q1, rfl, rfl, rfl, h1, r1⟩ := trodAll_cons r0
  obtain ⟨v2, vs2, d2, ds2, p2, q2, rfl, rfl, rfl, h2, r2⟩ := trodAll_cons r1
  obtain ⟨rfl, rfl, rfl⟩ := trodAll_nil r2
  obtain rfl : args = #[v0, v1, v2] := by cases args; simp_all
  obtain ⟨rfl, rfl⟩ := trodVars_none hV
  obtain ⟨a0, len0, cap0, rfl⟩ := okWide_slice Try.underlying43 (hval 0 43 v0 rfl rfl)
  have k0 := h0
  have lt0 : ∀ x ∈ p0, x.block < W.heap.size := by obtain ⟨m, hm⟩ := k0; exact DataW.trod_lt m _ _ _ hm
  obtain ⟨z0, w0⟩ : ∃ l, InP W a0 len0 cap0 l := by obtain ⟨fuel, hf⟩ := h0; exact open_pairs2 (by simpa [Value.cells] using hf)
  obtain ⟨a1, len1, cap1, rfl⟩ := okWide_slice Try.underlying43 (hval 1 43 v1 rfl rfl)
  have k1 := h1
  have lt1 : ∀ x ∈ p1, x.block < W.heap.size := by obtain ⟨m, hm⟩ := k1; exact DataW.trod_lt m _ _ _ hm
  obtain ⟨z1, w1⟩ : ∃ l, InP W a1 len1 cap1 l := by obtain ⟨fuel, hf⟩ := h1; exact open_pairs2 (by simpa [Value.cells] using hf)
  obtain ⟨a2, rfl, rfl, rfl, w2⟩ := open_int Try.underlying5 (hval 2 5 v2 rfl rfl) h2
  clear hA0 hval0
  refine (walk a0 len0 cap0 z0 a1 len1 cap1 z1 a2 W w0 w1 w2).mono fun e W' ⟨he, bel⟩ => ?_
  subst he
  exact ⟨_, rfl, _, _, _, [], _, [], hW', trodAll_mk1 (shut_bool Try.underlying4 _), (trodAll_cons_mk (Below.trod laidOut (by kernel_rfl) (of_decide_eq_true (by kernel_rfl)) k0 bel lt0) (trodAll_cons_mk (Below.trod laidOut (by kernel_rfl) (of_decide_eq_true (by kernel_rfl)) k1 bel lt1) (trodAll_cons_mk (shut_int Try.underlying5 w2) trodAll_mk0))), rfl, bel.frame _, fun h => by cases h⟩

theorem proved : Rows.BlackoutOrderSaid :=
  OpenClaim.holds_of_wide 8 Try.f8 rfl rfl rfl rfl rfl rfl rfl ⟨rfl, rfl, rfl, rfl, rfl⟩ rfl rfl rfl rfl rfl (by kernel_rfl) Try.func8 (by kernel_rfl)
    (of_decide_eq_true (by kernel_rfl)) (by unfold Func.isWrapper; first | (rw [if_pos (by decide +kernel)]; kernel_rfl) | (rw [if_neg (by decide +kernel)]; exact ⟨rfl, rfl⟩))
    (fun os started H enc _ => lifted os started H enc)

end Go.Proofs.Ytodjipbkeddbcaa.blackoutOrder
