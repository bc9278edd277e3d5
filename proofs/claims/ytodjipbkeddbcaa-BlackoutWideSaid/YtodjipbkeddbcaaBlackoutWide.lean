/- BlackoutWide returns true: spans that go from the first time to the last one; lists of 64 spans, whose results have more than 64; the errors in their order. Closed. -/
import Derived.Test.YtodjipbkeddbcaaBlkN
namespace Go.Proofs.Ytodjipbkeddbcaa.blackoutWide
open Go.ChangeShapes Go.WideShapes Go.ChangeAt Go.RowKit

set_option maxRecDepth 100000 in
set_option maxHeartbeats 4000000 in
theorem walk (w : World) :
    Calls Try.prog 11 #[] w fun e w' => e = .returned (.bool true) ∧ Below w.heap.size w w' := by
  obtain ⟨i0, hi, hz0, hz1, hz2⟩ := info_parts infoS
  go_enter Try.func11, Try.ntmps11
  go_wp2_with fail
  go_loopw [1, 2, 36] (fun ov ev iv wr => ∃ (k : Nat) (u v : Value), k ≤ 64 ∧ iv = .int .i64 k ∧ u = ov ∧ v = ev ∧ Hid (TwoS w u v (Bk.odd k) (Bk.even k) wr)) (fun _ _ iv _ => 64 - (intOf iv).toNat)
  case atStart => exact ⟨0, _, _, by omega, rfl, rfl, rfl, Lib.hid ⟨OwnS.nil (Below.refl _ _), OwnS.nil (Below.refl _ _), by simp [Value.ownBlock]⟩⟩
  case round =>
    obtain ⟨k, u, v, hk, rfl, rfl, rfl, ho⟩ := hrel
    by_cases lt : k < 64
    · have e0 : decide ((k : Int) < 64) = true := by rw [decide_eq_true_iff]; omega
      have wk : IntKind.i64.wrap ((k : Int) + 1) = (k : Int) + 1 := by rw [IntKind.wrap_i64]; omega
      have wm : IntKind.i64.wrap (4 * (k : Int)) = 4 * (k : Int) := by rw [IntKind.wrap_i64]; omega
      have wn : IntKind.i64.wrap (4 * (k : Int) + 2) = 4 * (k : Int) + 2 := by rw [IntKind.wrap_i64]; omega
      have OL := Lib.hid (Bk.odd_len k)
      have EL := Lib.hid (Bk.even_len k)
      have OS := Lib.hid (Bk.odd_succ k)
      have ES := Lib.hid (Bk.even_succ k)
      obtain ⟨O, hO⟩ : ∃ O, Bk.odd k = O := ⟨_, rfl⟩
      obtain ⟨V, hV⟩ : ∃ V, Bk.even k = V := ⟨_, rfl⟩
      rw [hO] at ho OL OS
      rw [hV] at ho EL ES
      have hs := ho.out.up.below.size
      clear hO hV
      go_wp2_with (at_builtin; refine wpList_append_own_at _ rfl (.tmp 39) (.tmp 45) 22 rfl w.heap.size 27 i0 (.agg #[.int .i64 0, .int .i64 0]) 2 16 Try.underlying22 hi hz0 hz1 hz2 rfl (by decide) _ O.length _ rfl (ho.out.up.row.alloc _) ⟨wr.heap.size, 0, none⟩ 1 1 [.int .i64 (4 * (k : Int)), .int .i64 (4 * (k : Int))] rfl ?c1 ?c2 ?c3 ?c4 ?c5 ?c6 ?c7)
      case c1 => rfl
      case c2 => exact cells_new _ _ (by simp) [.int .i64 (4 * (k : Int)), .int .i64 (4 * (k : Int))] _
      case c3 => simp [Value.oneCell']
      case c4 => have := OL.out; simp [maxLen]; omega
      case c5 => have := OL.out; omega
      case c6 => simp; omega
      case c7 =>
        intro u1 w1 hown hg _ hat
        have h1 := ho.out.step (x := (4 * (k : Int), 4 * (k : Int))) hown hg hat
        rw [← OS.out] at h1
        have hs1 := h1.up.below.size
        have H1 := Lib.hid h1
        clear h1 hown hg hat ho hs
        go_wp2_with (at_builtin; refine wpList_append_own_at _ rfl (.tmp 47) (.tmp 55) 22 rfl w.heap.size 27 i0 (.agg #[.int .i64 0, .int .i64 0]) 2 16 Try.underlying22 hi hz0 hz1 hz2 rfl (by decide) _ V.length _ rfl (H1.out.down.row.alloc _) ⟨w1.heap.size, 0, none⟩ 1 1 [.int .i64 (4 * (k : Int) + 2), .int .i64 (4 * (k : Int) + 2)] rfl ?d1 ?d2 ?d3 ?d4 ?d5 ?d6 ?d7)
        case d1 => rfl
        case d2 => exact cells_new _ _ (by simp) [.int .i64 (4 * (k : Int) + 2), .int .i64 (4 * (k : Int) + 2)] _
        case d3 => simp [Value.oneCell']
        case d4 => have := EL.out; simp [maxLen]; omega
        case d5 => have := EL.out; omega
        case d6 => simp; omega
        case d7 =>
          intro u2 w2 hown hg _ hat
          have h2 := (H1.out.swap.step (x := (4 * (k : Int) + 2, 4 * (k : Int) + 2)) hown hg hat).swap
          rw [← ES.out] at h2
          have H2 := Lib.hid h2
          clear h2 hown hg hat H1 hs1
          go_wp2_with fail
          go_roundw
          case rel => exact ⟨k + 1, _, _, by omega, by go_num, rfl, rfl, H2⟩
          case measure => simp [intOf]; omega
    · have e0 : decide ((k : Int) < 64) = false := by rw [decide_eq_false_iff_not]; omega
      have hk64 : k = 64 := by omega
      rw [hk64] at ho
      have hu := ho.out.up
      have hv := ho.out.down
      obtain ⟨O, hO⟩ : ∃ O, Bk.odd 64 = O := ⟨_, rfl⟩
      obtain ⟨V, hV⟩ : ∃ V, Bk.even 64 = V := ⟨_, rfl⟩
      obtain ⟨U, hU⟩ : ∃ U, Bk.tw 128 = U := ⟨_, rfl⟩
      obtain ⟨G, hG⟩ : ∃ G, Bk.gp = G := ⟨_, rfl⟩
      have OL := Bk.odd_len 64
      have EL := Bk.even_len 64
      have UL := Bk.tw_len 128
      have GL := Bk.gp_len
      have HU := Lib.hid Bk.wideU
      have HW := Lib.hid Bk.wideW
      have G63 := Lib.hid Bk.gp_63
      rw [hO] at hu OL HU HW
      rw [hV] at hv EL HU
      rw [hU] at UL HU
      rw [hG] at GL HW G63
      have B0 := Lib.hid (below_new hu.below (.cells #[.int .i64 0, .int .i64 253402300799] 27) (Nat.le_refl _))
      have RO0 := Lib.hid ((hu.rowS (by omega)).alloc (.cells #[.int .i64 0, .int .i64 253402300799] 27))
      have RE0 := Lib.hid ((hv.rowS (by omega)).alloc (.cells #[.int .i64 0, .int .i64 253402300799] 27))
      have RA0 := Lib.hid (rowS_one wr 0 253402300799 1)
      have hul := hu.len
      have hvl := hv.len
      rw [OL] at hul
      rw [EL] at hvl
      obtain ⟨A1, c1, rfl⟩ := hul
      obtain ⟨A2, c2, rfl⟩ := hvl
      clear hu hv ho hO hV hU hG lt hk
      go_wp2_with fail
      refine (union_any _ _ O V U 0 HU.out _ RO0.out RE0.out).mono ?_
      rintro e V1 ⟨u0, rfl, h_u0⟩
      have B1 := Lib.hid (below_next B0.out h_u0.below)
      have RO1 := Lib.hid (RO0.out.below h_u0.below)
      have RE1 := Lib.hid (RE0.out.below h_u0.below)
      have RA1 := Lib.hid (RA0.out.below h_u0.below)
      have RU1 := Lib.hid (h_u0.rowS (by omega))
      obtain ⟨g_u0, c_u0, q_u0⟩ := h_u0.form (by omega)
      rw [UL] at q_u0
      subst q_u0
      clear h_u0
      clear RO0 RE0 RA0 B0
      go_wp2_with fail
      refine (without_any _ _ [(0, 253402300799)] O G 0 HW.out _ RA1.out RO1.out).mono ?_
      rintro e V2 ⟨g0, rfl, h_g0⟩
      have B2 := Lib.hid (below_next B1.out h_g0.below)
      have RO2 := Lib.hid (RO1.out.below h_g0.below)
      have RE2 := Lib.hid (RE1.out.below h_g0.below)
      have RA2 := Lib.hid (RA1.out.below h_g0.below)
      have RU2 := Lib.hid (RU1.out.below h_g0.below)
      have RG2 := Lib.hid (h_g0.rowS (by omega))
      obtain ⟨g_g0, c_g0, q_g0⟩ := h_g0.form (by omega)
      rw [GL] at q_g0
      subst q_g0
      clear h_g0
      clear RO1 RE1 RA1 RU1 B1
      go_wp2_with fail
      refine (free_any _ [(0, 253402300799)] 0 0 false 0 Bk.freeAll _ RA2.out).mono ?_
      rintro e V3 ⟨rfl, b⟩
      have B3 := Lib.hid (below_next B2.out b)
      have RO3 := Lib.hid (RO2.out.below b)
      have RE3 := Lib.hid (RE2.out.below b)
      have RA3 := Lib.hid (RA2.out.below b)
      have RU3 := Lib.hid (RU2.out.below b)
      have RG3 := Lib.hid (RG2.out.below b)
      clear b
      clear RO2 RE2 RA2 RU2 RG2 B2
      go_wp2_with fail
      refine (free_any _ [(0, 253402300798)] 7 253402300799 true 0 Bk.freeMost _ (rowS_one V3 0 253402300798 1)).mono ?_
      rintro e V4 ⟨rfl, b⟩
      have B4 := Lib.hid (below_next (below_new B3.out _ (Nat.le_refl _)) b)
      have RO4 := Lib.hid ((RO3.out.alloc _).below b)
      have RE4 := Lib.hid ((RE3.out.alloc _).below b)
      have RA4 := Lib.hid ((RA3.out.alloc _).below b)
      have RU4 := Lib.hid ((RU3.out.alloc _).below b)
      have RG4 := Lib.hid ((RG3.out.alloc _).below b)
      clear b
      clear RO3 RE3 RA3 RU3 RG3 B3
      go_wp2_with fail
      refine (length_any _ [(0, 253402300799)] 0 253402300799 253402300800 0 Bk.lenAll _ RA4.out).mono ?_
      rintro e V5 ⟨rfl, b⟩
      have B5 := Lib.hid (below_next B4.out b)
      have RO5 := Lib.hid (RO4.out.below b)
      have RE5 := Lib.hid (RE4.out.below b)
      have RA5 := Lib.hid (RA4.out.below b)
      have RU5 := Lib.hid (RU4.out.below b)
      have RG5 := Lib.hid (RG4.out.below b)
      clear b
      clear RO4 RE4 RA4 RU4 RG4 B4
      obtain ⟨b, o, e1, q1, q2⟩ := RG5.out.at (j := 63) (by omega)
      cases e1
      rw [G63.out] at q1 q2
      simp only [Nat.zero_add, Nat.reduceMul, Nat.reduceAdd] at q1 q2
      obtain ⟨W5, hmk, hm, hgr⟩ := run_make_full (P := Try.prog) V5 w.heap.size 22 27 i0 (.agg #[.int .i64 0, .int .i64 0]) 2 Try.underlying22 hi hz0 hz1 .i64 .i64 65 (by rw [hz2]; omega) (by simp [maxLen]) B5.out.size
      have BW5 := Lib.hid (below_next B5.out ⟨hgr.os, hgr.tape, hgr.output, hgr.size, fun k hk => hgr.block k hk (by simp)⟩)
      rw [madeS] at hm
      have HM := Lib.hid hm
      have f0 := hm.frozenAt 0
      have f1 := hm.frozenAt 1
      have k0 : W5.cell? ⟨V5.heap.size, 0, none⟩ = some (.int .i64 0) := by rw [hm.cellAt 0 (by omega)]; rfl
      have k1 : W5.cell? ⟨V5.heap.size, 1, none⟩ = some (.int .i64 0) := by rw [hm.cellAt 1 (by omega)]; rfl
      have hmk2 : (Instr.makeSlice 22 (.int .i64 65) (.int .i64 65)).run Try.prog V5 = .ok (.slice (some ⟨V5.heap.size, 0, none⟩) 65 65) W5 := hmk
      clear hm hgr hmk
      go_wp2_with fail
      obtain ⟨W0, hW0⟩ : ∃ W0, tabW V5.heap.size W5.heap.size ((W5.setCell ⟨V5.heap.size, 0, none⟩ (.int .i64 (-1))).setCell ⟨V5.heap.size, 1, none⟩ (.int .i64 0)) = W0 := ⟨_, rfl⟩
      obtain ⟨T, hT⟩ : ∃ T, W5.heap.size + 1 + 1 + 1 + 1 = T := ⟨_, rfl⟩
      obtain ⟨b0, TL, r0, tc⟩ := tab_ok BW5.out HM.out W0 T hW0 hT
      have B6 := Lib.hid b0
      have TLT := Lib.hid TL
      have RM6 := Lib.hid r0
      have CELL := Lib.hid tc
      rw [tabW_eq, hW0, hT]
      clear b0 TL r0 tc hW0 hT BW5 HM f0 f1 k0 k1 hmk2 q1 q2 RO5 RE5 RA5 RU5 RG5 B5
      go_loopw [165] (fun iv wr => ∃ j : Nat, j ≤ 7 ∧ iv = .int .i64 j ∧ Hid (Below W0.heap.size W0 wr)) (fun iv _ => 7 - (intOf iv).toNat)
      case atStart => exact ⟨0, by omega, rfl, Lib.hid (Below.refl _ _)⟩
      case round =>
        obtain ⟨j, hj, rfl, hb⟩ := hrel
        by_cases lt : j < 7
        · have e0 : decide ((j : Int) < 7) = true := by rw [decide_eq_true_iff]; omega
          have wj : IntKind.i64.wrap ((j : Int) + 1) = (j : Int) + 1 := by rw [IntKind.wrap_i64]; omega
          obtain ⟨v, ca, cb, rv⟩ := CELL.out j lt
          have da := (hb.out.cell (p := ⟨T, j * 2, none⟩) TLT.out).trans ca
          have db := (hb.out.cell (p := ⟨T, j * 2 + 1, none⟩) TLT.out).trans cb
          have er := Bk.err_LS lt
          have RV0 := Lib.hid ((rv.below hb.out).alloc (.cells #[v, .int .i64 (Bk.ES.getD j 0)] 52))
          have RM0 := Lib.hid ((RM6.out.below hb.out).alloc (.cells #[v, .int .i64 (Bk.ES.getD j 0)] 52))
          have B0 := Lib.hid (below_new hb.out (.cells #[v, .int .i64 (Bk.ES.getD j 0)] 52) (Nat.le_refl _))
          have x0 := (cell_pair wr _ rfl v (.int .i64 (Bk.ES.getD j 0)) 52).1
          have x1 := (cell_pair wr _ rfl v (.int .i64 (Bk.ES.getD j 0)) 52).2
          have HB : Hid (wr.heap.size < (wr.alloc (.cells #[v, .int .i64 (Bk.ES.getD j 0)] 52)).heap.size) := Lib.hid (by simp)
          obtain ⟨l, hl⟩ : ∃ l, Bk.LS.getD j [] = l := ⟨_, rfl⟩
          obtain ⟨E, hE⟩ : ∃ E, Bk.ES.getD j 0 = E := ⟨_, rfl⟩
          rw [hl] at er rv RV0
          rw [hE] at er cb db RV0 RM0 B0 x0 x1 HB
          obtain ⟨LM, hLM⟩ : ∃ L, Bk.many = L := ⟨_, rfl⟩
          have eI := Bk.errI_neg l
          have eR := Bk.errR_neg l
          have eQ := Bk.errR_rev l
          have eU := Bk.err2_many l
          have eM := Bk.err2_many' l
          rw [er] at eI eR eQ eU
          rw [hLM] at RM0 eU eM
          have HX := Lib.hid (Bk.resN (k := 2) eM (by decide))
          have ER := Lib.hid er
          obtain ⟨A9, c9, rfl⟩ := rv.len
          clear hl hE hLM ca cb er rv hb eM
          by_cases z : E = 0
          · subst z
            rw [if_pos rfl] at eI eR eQ eU
            have HI := Lib.hid eI
            have HF := Lib.hid (Bk.freeN eI (by decide))
            have HU := Lib.hid (Bk.resN (k := 1) eU (by decide))
            have HL := Lib.hid (Bk.lenN eR (by decide))
            have HQ := Lib.hid (Bk.lenN eQ (by decide))
            have HN := Lib.hid (Bk.inN eI (by decide))
            clear eI eR eQ eU
            go_wp2_with fail
            refine (in_any _ l (-1) false 14 HI.out HN.out _ RV0.out).mono ?_
            rintro e' Z1 ⟨rfl, b⟩
            have y0 := (b.cell (p := ⟨wr.heap.size, 0, none⟩) HB.out).trans x0
            have y1 := (b.cell (p := ⟨wr.heap.size, 1, none⟩) HB.out).trans x1
            have HC : Hid (wr.heap.size < Z1.heap.size) := Lib.hid (Nat.lt_of_lt_of_le HB.out b.size)
            have B1 := Lib.hid (below_next B0.out b)
            have RV1 := Lib.hid (RV0.out.below b)
            have RM1 := Lib.hid (RM0.out.below b)
            clear b x0 x1 HB B0 RV0 RM0
            have x0 := y0
            have x1 := y1
            have HB := HC
            clear y0 y1 HC
            go_wp2_with fail
            refine (free_any _ l (-1) 0 false 14 HF.out _ RV1.out).mono ?_
            rintro e' Z2 ⟨rfl, b⟩
            have y0 := (b.cell (p := ⟨wr.heap.size, 0, none⟩) HB.out).trans x0
            have y1 := (b.cell (p := ⟨wr.heap.size, 1, none⟩) HB.out).trans x1
            have HC : Hid (wr.heap.size < Z2.heap.size) := Lib.hid (Nat.lt_of_lt_of_le HB.out b.size)
            have B2 := Lib.hid (below_next B1.out b)
            have RV2 := Lib.hid (RV1.out.below b)
            have RM2 := Lib.hid (RM1.out.below b)
            clear b x0 x1 HB B1 RV1 RM1
            have x0 := y0
            have x1 := y1
            have HB := HC
            clear y0 y1 HC
            go_wp2_with fail
            refine (union_any _ _ l LM [] 12 HU.out _ RV2.out RM2.out).mono ?_
            rintro e' Z3 ⟨u0, rfl, hu0⟩
            have b := hu0.below
            obtain ⟨a_u0, c_u0, rfl⟩ := hu0.len
            clear hu0
            have y0 := (b.cell (p := ⟨wr.heap.size, 0, none⟩) HB.out).trans x0
            have y1 := (b.cell (p := ⟨wr.heap.size, 1, none⟩) HB.out).trans x1
            have HC : Hid (wr.heap.size < Z3.heap.size) := Lib.hid (Nat.lt_of_lt_of_le HB.out b.size)
            have B3 := Lib.hid (below_next B2.out b)
            have RV3 := Lib.hid (RV2.out.below b)
            have RM3 := Lib.hid (RM2.out.below b)
            clear b x0 x1 HB B2 RV2 RM2
            have x0 := y0
            have x1 := y1
            have HB := HC
            clear y0 y1 HC
            go_wp2_with fail
            refine (meet_any _ _ LM l [] 12 HX.out _ RM3.out RV3.out).mono ?_
            rintro e' Z4 ⟨m0, rfl, hm0⟩
            have b := hm0.below
            obtain ⟨a_m0, c_m0, rfl⟩ := hm0.len
            clear hm0
            have y0 := (b.cell (p := ⟨wr.heap.size, 0, none⟩) HB.out).trans x0
            have y1 := (b.cell (p := ⟨wr.heap.size, 1, none⟩) HB.out).trans x1
            have HC : Hid (wr.heap.size < Z4.heap.size) := Lib.hid (Nat.lt_of_lt_of_le HB.out b.size)
            have B4 := Lib.hid (below_next B3.out b)
            have RV4 := Lib.hid (RV3.out.below b)
            have RM4 := Lib.hid (RM3.out.below b)
            clear b x0 x1 HB B3 RV3 RM3
            have x0 := y0
            have x1 := y1
            have HB := HC
            clear y0 y1 HC
            go_wp2_with fail
            refine (length_any _ l 3 (-1) 0 14 HL.out _ RV4.out).mono ?_
            rintro e' Z5 ⟨rfl, b⟩
            have y0 := (b.cell (p := ⟨wr.heap.size, 0, none⟩) HB.out).trans x0
            have y1 := (b.cell (p := ⟨wr.heap.size, 1, none⟩) HB.out).trans x1
            have HC : Hid (wr.heap.size < Z5.heap.size) := Lib.hid (Nat.lt_of_lt_of_le HB.out b.size)
            have B5 := Lib.hid (below_next B4.out b)
            have RV5 := Lib.hid (RV4.out.below b)
            have RM5 := Lib.hid (RM4.out.below b)
            clear b x0 x1 HB B4 RV4 RM4
            have x0 := y0
            have x1 := y1
            have HB := HC
            clear y0 y1 HC
            go_wp2_with fail
            refine (length_any _ l 3 2 0 8 HQ.out _ RV5.out).mono ?_
            rintro e' Z6 ⟨rfl, b⟩
            have y0 := (b.cell (p := ⟨wr.heap.size, 0, none⟩) HB.out).trans x0
            have y1 := (b.cell (p := ⟨wr.heap.size, 1, none⟩) HB.out).trans x1
            have HC : Hid (wr.heap.size < Z6.heap.size) := Lib.hid (Nat.lt_of_lt_of_le HB.out b.size)
            have B6 := Lib.hid (below_next B5.out b)
            have RV6 := Lib.hid (RV5.out.below b)
            have RM6 := Lib.hid (RM5.out.below b)
            clear b x0 x1 HB B5 RV5 RM5
            have x0 := y0
            have x1 := y1
            have HB := HC
            clear y0 y1 HC
            go_wp2_with fail
            go_quiet (fail)
            have Q := Lib.hid (show CtxB W0 (.slice A9 l.length c9) l wr.heap.size 0 (Z6.drewN nq) from ⟨below_drewN B6.out nq, RV6.out.drewN nq, x0, x1⟩)
            have CKC := Lib.hid (fun W (h : CtxB W0 (.slice A9 l.length c9) l wr.heap.size 0 W) => chk_ctx ER.out h)
            clear HI HF HU HL HQ HN HX RM6 RV6 B6 HB ER CELL TLT
            go_wp2_with fail
            go_region_held3 (fun w' => w'.cell? ⟨wr.heap.size, 0, none⟩ = some (.slice A9 l.length c9) ∧ w'.cell? ⟨wr.heap.size, 1, none⟩ = some (.int .i64 0)) (go_keep)
              (first | (go_at_call 18; refine (CKC.out _ (by first | exact Q.out | exact Q.out.drew)).mono ?_; rintro e' w20 ⟨rfl, q⟩; have x5 := q.2.2.1; have x6 := q.2.2.2; have Q := Lib.hid q; clear q))
            all_goals
              go_wp2_with fail
              go_roundw
              case rel => exact ⟨j + 1, by omega, by go_num, Lib.hid (by first | exact Q.out.1 | exact Q.out.1.drew)⟩
              case measure => simp [intOf]; omega
          · rw [if_neg z] at eI eR eQ eU
            have z1 : (E == 0) = false := by rw [beq_eq_false_iff_ne]; exact z
            have HI := Lib.hid eI
            have HF := Lib.hid (Bk.freeN eI (z))
            have HU := Lib.hid (Bk.resN (k := 1) eU (z))
            have HL := Lib.hid (Bk.lenN eR (z))
            have HQ := Lib.hid (Bk.lenN eQ (z))
            have HN := Lib.hid (Bk.inN eI (z))
            clear eI eR eQ eU
            go_wp2_with fail
            refine (in_any _ l (-1) false E HI.out HN.out _ RV0.out).mono ?_
            rintro e' Z1 ⟨rfl, b⟩
            have y0 := (b.cell (p := ⟨wr.heap.size, 0, none⟩) HB.out).trans x0
            have y1 := (b.cell (p := ⟨wr.heap.size, 1, none⟩) HB.out).trans x1
            have HC : Hid (wr.heap.size < Z1.heap.size) := Lib.hid (Nat.lt_of_lt_of_le HB.out b.size)
            have B1 := Lib.hid (below_next B0.out b)
            have RV1 := Lib.hid (RV0.out.below b)
            have RM1 := Lib.hid (RM0.out.below b)
            clear b x0 x1 HB B0 RV0 RM0
            have x0 := y0
            have x1 := y1
            have HB := HC
            clear y0 y1 HC
            go_wp2_with fail
            refine (free_any _ l (-1) 0 false E HF.out _ RV1.out).mono ?_
            rintro e' Z2 ⟨rfl, b⟩
            have y0 := (b.cell (p := ⟨wr.heap.size, 0, none⟩) HB.out).trans x0
            have y1 := (b.cell (p := ⟨wr.heap.size, 1, none⟩) HB.out).trans x1
            have HC : Hid (wr.heap.size < Z2.heap.size) := Lib.hid (Nat.lt_of_lt_of_le HB.out b.size)
            have B2 := Lib.hid (below_next B1.out b)
            have RV2 := Lib.hid (RV1.out.below b)
            have RM2 := Lib.hid (RM1.out.below b)
            clear b x0 x1 HB B1 RV1 RM1
            have x0 := y0
            have x1 := y1
            have HB := HC
            clear y0 y1 HC
            go_wp2_with fail
            refine (union_any _ _ l LM [] E HU.out _ RV2.out RM2.out).mono ?_
            rintro e' Z3 ⟨u0, rfl, hu0⟩
            have b := hu0.below
            obtain ⟨a_u0, c_u0, rfl⟩ := hu0.len
            clear hu0
            have y0 := (b.cell (p := ⟨wr.heap.size, 0, none⟩) HB.out).trans x0
            have y1 := (b.cell (p := ⟨wr.heap.size, 1, none⟩) HB.out).trans x1
            have HC : Hid (wr.heap.size < Z3.heap.size) := Lib.hid (Nat.lt_of_lt_of_le HB.out b.size)
            have B3 := Lib.hid (below_next B2.out b)
            have RV3 := Lib.hid (RV2.out.below b)
            have RM3 := Lib.hid (RM2.out.below b)
            clear b x0 x1 HB B2 RV2 RM2
            have x0 := y0
            have x1 := y1
            have HB := HC
            clear y0 y1 HC
            go_wp2_with fail
            refine (meet_any _ _ LM l [] 12 HX.out _ RM3.out RV3.out).mono ?_
            rintro e' Z4 ⟨m0, rfl, hm0⟩
            have b := hm0.below
            obtain ⟨a_m0, c_m0, rfl⟩ := hm0.len
            clear hm0
            have y0 := (b.cell (p := ⟨wr.heap.size, 0, none⟩) HB.out).trans x0
            have y1 := (b.cell (p := ⟨wr.heap.size, 1, none⟩) HB.out).trans x1
            have HC : Hid (wr.heap.size < Z4.heap.size) := Lib.hid (Nat.lt_of_lt_of_le HB.out b.size)
            have B4 := Lib.hid (below_next B3.out b)
            have RV4 := Lib.hid (RV3.out.below b)
            have RM4 := Lib.hid (RM3.out.below b)
            clear b x0 x1 HB B3 RV3 RM3
            have x0 := y0
            have x1 := y1
            have HB := HC
            clear y0 y1 HC
            go_wp2_with fail
            refine (length_any _ l 3 (-1) 0 E HL.out _ RV4.out).mono ?_
            rintro e' Z5 ⟨rfl, b⟩
            have y0 := (b.cell (p := ⟨wr.heap.size, 0, none⟩) HB.out).trans x0
            have y1 := (b.cell (p := ⟨wr.heap.size, 1, none⟩) HB.out).trans x1
            have HC : Hid (wr.heap.size < Z5.heap.size) := Lib.hid (Nat.lt_of_lt_of_le HB.out b.size)
            have B5 := Lib.hid (below_next B4.out b)
            have RV5 := Lib.hid (RV4.out.below b)
            have RM5 := Lib.hid (RM4.out.below b)
            clear b x0 x1 HB B4 RV4 RM4
            have x0 := y0
            have x1 := y1
            have HB := HC
            clear y0 y1 HC
            go_wp2_with fail
            refine (length_any _ l 3 2 0 E HQ.out _ RV5.out).mono ?_
            rintro e' Z6 ⟨rfl, b⟩
            have y0 := (b.cell (p := ⟨wr.heap.size, 0, none⟩) HB.out).trans x0
            have y1 := (b.cell (p := ⟨wr.heap.size, 1, none⟩) HB.out).trans x1
            have HC : Hid (wr.heap.size < Z6.heap.size) := Lib.hid (Nat.lt_of_lt_of_le HB.out b.size)
            have B6 := Lib.hid (below_next B5.out b)
            have RV6 := Lib.hid (RV5.out.below b)
            have RM6 := Lib.hid (RM5.out.below b)
            clear b x0 x1 HB B5 RV5 RM5
            have x0 := y0
            have x1 := y1
            have HB := HC
            clear y0 y1 HC
            go_wp2_with fail
            go_quiet (fail)
            have Q := Lib.hid (show CtxB W0 (.slice A9 l.length c9) l wr.heap.size E (Z6.drewN nq) from ⟨below_drewN B6.out nq, RV6.out.drewN nq, x0, x1⟩)
            have CKC := Lib.hid (fun W (h : CtxB W0 (.slice A9 l.length c9) l wr.heap.size E W) => chk_ctx ER.out h)
            clear HI HF HU HL HQ HN HX RM6 RV6 B6 HB ER CELL TLT
            go_wp2_with fail
            go_region_held3 (fun w' => w'.cell? ⟨wr.heap.size, 0, none⟩ = some (.slice A9 l.length c9) ∧ w'.cell? ⟨wr.heap.size, 1, none⟩ = some (.int .i64 E)) (go_keep)
              (first | (go_at_call 18; refine (CKC.out _ (by first | exact Q.out | exact Q.out.drew)).mono ?_; rintro e' w20 ⟨rfl, q⟩; have x5 := q.2.2.1; have x6 := q.2.2.2; have Q := Lib.hid q; clear q))
            all_goals
              go_wp2_with fail
              go_roundw
              case rel => exact ⟨j + 1, by omega, by go_num, Lib.hid (by first | exact Q.out.1 | exact Q.out.1.drew)⟩
              case measure => simp [intOf]; omega
        · have e0 : decide ((j : Int) < 7) = false := by rw [decide_eq_false_iff_not]; omega
          have HB := Lib.hid (below_next B6.out hb.out)
          clear lt hj hb
          go_wp2_with fail
          refine (works_any _).mono ?_
          rintro e' Z ⟨rfl, b⟩
          have HZ := Lib.hid (below_next HB.out b)
          clear b
          go_wp2_with fail
          go_ret
          exact ⟨rfl, HZ.out⟩

set_option maxRecDepth 100000 in
theorem lifted (os : Os) (started : os.Started) (H : Type) (enc : TypeId × Value → H) :
    ReturnsInHanded {} Try.checked os 11 .any (Rows.blackoutWideSpec.pre6 enc Try.prog Try.f11 Rows.blackoutWideRow.domain false) (Rows.blackoutWideSpec.post enc Try.prog Try.f11 false true false false) := by
  refine returnsInHanded_of_change (C := Try.checked) own started (by kernel_rfl) Try.func11
    (ChangeSpec.witness6 (enc := enc) (C := Try.checked) false ⟨#[], #[], []⟩ 8 (by kernel_rfl) (by kernel_rfl) (by kernel_rfl) (by kernel_rfl)) ?_
  intro W base args ds gs before hval0 hW hcnd _
  have hval : ∀ (j : Nat) t v, Try.f11.params[j]? = some t → args[j]? = some v → Value.okWide Try.prog W .any base t v := hval0
  have hW' := hW
  obtain ⟨p, q, hA0, hV, rfl, hfz, hnd⟩ := hW
  have hA : DataW.TrodAll enc Try.prog W 0 (fun _ => true) true Try.f11.params.toList args.toList ds p := hA0
  rw [Try.params11] at hA hval
  obtain ⟨hargs, rfl, rfl⟩ := trodAll_nil hA
  obtain rfl : args = #[] := by cases args; simp_all
  obtain ⟨rfl, rfl⟩ := trodVars_none hV
  clear hA0 hval0
  refine (walk  W ).mono fun e W' ⟨he, bel⟩ => ?_
  subst he
  exact ⟨_, rfl, _, _, _, [], _, [], hW', trodAll_mk1 (shut_bool Try.underlying4 _), trodAll_mk0, rfl, bel.frame _, fun h => by cases h⟩

theorem proved : Rows.BlackoutWideSaid :=
  OpenClaim.holds_of_wide 11 Try.f11 rfl rfl rfl rfl rfl rfl rfl ⟨rfl, rfl, rfl, rfl, rfl⟩ rfl rfl rfl rfl rfl (by kernel_rfl) Try.func11 (by kernel_rfl)
    (of_decide_eq_true (by kernel_rfl)) (by unfold Func.isWrapper; first | (rw [if_pos (by decide +kernel)]; kernel_rfl) | (rw [if_neg (by decide +kernel)]; exact ⟨rfl, rfl⟩))
    (fun os started H enc _ => lifted os started H enc)

end Go.Proofs.Ytodjipbkeddbcaa.blackoutWide
