/- For all pairs of slices of pairs of bytes, BlackoutSets returns true: the results of both lists are normal, and have just the times that they should have. No conditions. -/
import Derived.Test.YtodjipbkeddbcaaBlkK
namespace Go.Proofs.Ytodjipbkeddbcaa.blackoutSets
open Go.ChangeShapes Go.WideShapes Go.ChangeAt Go.RowKit

set_option maxRecDepth 100000 in
set_option maxHeartbeats 4000000 in
theorem walk (a : Option Addr) (len cap : Nat) (z : List (Nat × Nat)) (a' : Option Addr) (len' cap' : Nat) (z' : List (Nat × Nat)) (w : World) (h : InP w a len cap z) (h' : InP w a' len' cap' z') :
    Calls Try.prog 7 #[.slice a len cap, .slice a' len' cap'] w fun e w' => e = .returned (.bool true) ∧ Below w.heap.size w w' := by
  have B0 : Hid (Below w.heap.size w w) := Lib.hid (Below.refl _ _)
  have SP := Lib.hid (spans_any a len cap z w h)
  have SQ := Lib.hid (fun W (hb : Below w.heap.size w W) => spans_any a' len' cap' z' W (h'.below hb))
  have SL := Bk.spansL_len z
  have SM := Bk.spansL_len z'
  have SE := Bk.spansL_err z
  have SF := Bk.spansL_err z'
  obtain ⟨l, hl⟩ : ∃ l, Bk.spansL z = l := ⟨_, rfl⟩
  obtain ⟨m, hm⟩ : ∃ l, Bk.spansL z' = l := ⟨_, rfl⟩
  rw [hl] at SP SL SE
  rw [hm] at SQ SM SF
  obtain ⟨n, rn, hn⟩ := Bk.resR_ex l [] 1
  obtain ⟨u, ru, hu⟩ := Bk.resR_ex l m 1
  obtain ⟨v, rv, hv⟩ := Bk.resR_ex l m 2
  obtain ⟨x, rx, hx⟩ := Bk.resR_ex l m 3
  have e2 : Bk.err2 l m = 0 := Bk.err2_zero.2 ⟨SE, SF⟩
  have en : rn = 0 := by rw [hn.1, Bk.err2_nil, SE]
  have eu : ru = 0 := by rw [hu.1, e2]
  have ev : rv = 0 := by rw [hv.1, e2]
  have ex : rx = 0 := by rw [hx.1, e2]
  subst en eu ev ex
  have NL := hn.len
  have UL := hu.len
  have VL := hv.len
  have XL := hx.len
  have HN := Lib.hid hn
  have HU := Lib.hid hu
  have HV := Lib.hid hv
  have HX := Lib.hid hx
  have TN := Lib.hid (fun t => Bk.res_one hn.res t)
  have TU := Lib.hid (fun t => (hu.res.times t).trans Bk.want_1)
  have TV := Lib.hid (fun t => (hv.res.times t).trans Bk.want_2)
  have TX := Lib.hid (fun t => (hx.res.times t).trans Bk.want_3)
  have HE := Lib.hid SE
  clear h h' hl hm hn hu hv hx e2 SE SF
  go_enter Try.func7, Try.ntmps7
  go_wp2_with fail
  refine (SP.out).mono ?_
  rintro e V1 ⟨c, rfl, h_c⟩
  have B1 := Lib.hid (below_next B0.out h_c.below)
  have RA1 := Lib.hid (h_c.rowS (by omega))
  obtain ⟨a_c, c_c, rfl⟩ := h_c.len
  clear h_c
  clear B0
  go_wp2_with fail
  refine (SQ.out _ B1.out).mono ?_
  rintro e V2 ⟨d, rfl, h_d⟩
  have B2 := Lib.hid (below_next B1.out h_d.below)
  have RA2 := Lib.hid (RA1.out.below h_d.below)
  have RB2 := Lib.hid (h_d.rowS (by omega))
  obtain ⟨a_d, c_d, rfl⟩ := h_d.len
  clear h_d
  clear RA1 B1
  go_wp2_with fail
  refine (normal_any _ l n 0 HN.out _ RA2.out).mono ?_
  rintro e V3 ⟨n0, rfl, h_n0⟩
  have B3 := Lib.hid (below_next B2.out h_n0.below)
  have RA3 := Lib.hid (RA2.out.below h_n0.below)
  have RB3 := Lib.hid (RB2.out.below h_n0.below)
  have RN3 := Lib.hid (h_n0.rowS (by omega))
  obtain ⟨a_n0, c_n0, rfl⟩ := h_n0.len
  clear h_n0
  clear RA2 RB2 B2
  go_wp2_with fail
  refine (union_any _ _ l m u 0 HU.out _ RA3.out RB3.out).mono ?_
  rintro e V4 ⟨u0, rfl, h_u0⟩
  have B4 := Lib.hid (below_next B3.out h_u0.below)
  have RA4 := Lib.hid (RA3.out.below h_u0.below)
  have RB4 := Lib.hid (RB3.out.below h_u0.below)
  have RN4 := Lib.hid (RN3.out.below h_u0.below)
  have RU4 := Lib.hid (h_u0.rowS (by omega))
  obtain ⟨a_u0, c_u0, rfl⟩ := h_u0.len
  clear h_u0
  clear RA3 RB3 RN3 B3
  go_wp2_with fail
  refine (meet_any _ _ l m v 0 HV.out _ RA4.out RB4.out).mono ?_
  rintro e V5 ⟨v0, rfl, h_v0⟩
  have B5 := Lib.hid (below_next B4.out h_v0.below)
  have RA5 := Lib.hid (RA4.out.below h_v0.below)
  have RB5 := Lib.hid (RB4.out.below h_v0.below)
  have RN5 := Lib.hid (RN4.out.below h_v0.below)
  have RU5 := Lib.hid (RU4.out.below h_v0.below)
  have RV5 := Lib.hid (h_v0.rowS (by omega))
  obtain ⟨a_v0, c_v0, rfl⟩ := h_v0.len
  clear h_v0
  clear RA4 RB4 RN4 RU4 B4
  go_wp2_with fail
  refine (without_any _ _ l m x 0 HX.out _ RA5.out RB5.out).mono ?_
  rintro e V6 ⟨x0, rfl, h_x0⟩
  have B6 := Lib.hid (below_next B5.out h_x0.below)
  have RA6 := Lib.hid (RA5.out.below h_x0.below)
  have RB6 := Lib.hid (RB5.out.below h_x0.below)
  have RN6 := Lib.hid (RN5.out.below h_x0.below)
  have RU6 := Lib.hid (RU5.out.below h_x0.below)
  have RV6 := Lib.hid (RV5.out.below h_x0.below)
  have RX6 := Lib.hid (h_x0.rowS (by omega))
  obtain ⟨a_x0, c_x0, rfl⟩ := h_x0.len
  clear h_x0
  clear RA5 RB5 RN5 RU5 RV5 B5
  go_wp2_with fail
  refine (lnormal_any _ n HN.out.res.norm HN.out.okS _ RN6.out).mono ?_
  rintro e V7 ⟨rfl, b⟩
  have B7 := Lib.hid (below_next B6.out b)
  have RA7 := Lib.hid (RA6.out.below b)
  have RB7 := Lib.hid (RB6.out.below b)
  have RN7 := Lib.hid (RN6.out.below b)
  have RU7 := Lib.hid (RU6.out.below b)
  have RV7 := Lib.hid (RV6.out.below b)
  have RX7 := Lib.hid (RX6.out.below b)
  clear b
  clear RA6 RB6 RN6 RU6 RV6 RX6 B6
  go_wp2_with fail
  refine (lnormal_any _ u HU.out.res.norm HU.out.okS _ RU7.out).mono ?_
  rintro e V8 ⟨rfl, b⟩
  have B8 := Lib.hid (below_next B7.out b)
  have RA8 := Lib.hid (RA7.out.below b)
  have RB8 := Lib.hid (RB7.out.below b)
  have RN8 := Lib.hid (RN7.out.below b)
  have RU8 := Lib.hid (RU7.out.below b)
  have RV8 := Lib.hid (RV7.out.below b)
  have RX8 := Lib.hid (RX7.out.below b)
  clear b
  clear RA7 RB7 RN7 RU7 RV7 RX7 B7
  go_wp2_with fail
  refine (lnormal_any _ v HV.out.res.norm HV.out.okS _ RV8.out).mono ?_
  rintro e V9 ⟨rfl, b⟩
  have B9 := Lib.hid (below_next B8.out b)
  have RA9 := Lib.hid (RA8.out.below b)
  have RB9 := Lib.hid (RB8.out.below b)
  have RN9 := Lib.hid (RN8.out.below b)
  have RU9 := Lib.hid (RU8.out.below b)
  have RV9 := Lib.hid (RV8.out.below b)
  have RX9 := Lib.hid (RX8.out.below b)
  clear b
  clear RA8 RB8 RN8 RU8 RV8 RX8 B8
  go_wp2_with fail
  refine (lnormal_any _ x HX.out.res.norm HX.out.okS _ RX9.out).mono ?_
  rintro e V10 ⟨rfl, b⟩
  have B10 := Lib.hid (below_next B9.out b)
  have RA10 := Lib.hid (RA9.out.below b)
  have RB10 := Lib.hid (RB9.out.below b)
  have RN10 := Lib.hid (RN9.out.below b)
  have RU10 := Lib.hid (RU9.out.below b)
  have RV10 := Lib.hid (RV9.out.below b)
  have RX10 := Lib.hid (RX9.out.below b)
  clear b
  clear RA9 RB9 RN9 RU9 RV9 RX9 B9
  go_wp2_with fail
  go_loopw [81] (fun iv wr => ∃ i : Nat, i ≤ 202 ∧ iv = .int .i64 i ∧ Hid (Below V10.heap.size V10 wr)) (fun iv _ => 202 - (intOf iv).toNat)
  case atStart => exact ⟨0, by omega, rfl, Lib.hid (Below.refl _ _)⟩
  case round =>
    obtain ⟨i, hi, rfl, B0⟩ := hrel
    by_cases lt : i < 202
    · have e0 : decide ((i : Int) < 202) = true := by rw [decide_eq_true_iff]; omega
      have wi : IntKind.i64.wrap ((i : Int) + 1) = (i : Int) + 1 := by rw [IntKind.wrap_i64]; omega
      have RA0 := Lib.hid (RA10.out.below B0.out)
      have RB0 := Lib.hid (RB10.out.below B0.out)
      have RN0 := Lib.hid (RN10.out.below B0.out)
      have RU0 := Lib.hid (RU10.out.below B0.out)
      have RV0 := Lib.hid (RV10.out.below B0.out)
      have RX0 := Lib.hid (RX10.out.below B0.out)
      have EI : Hid (Bk.errI l (i : Int) = 0) := Lib.hid (Bk.errI_zero.2 ⟨HE.out, by unfold Bk.okT; omega⟩)
      obtain ⟨y, hy⟩ : ∃ y : Int, (i : Int) = y := ⟨_, rfl⟩
      have TN1 := TN.out (i : Int)
      have TU1 := TU.out (i : Int)
      have TV1 := TV.out (i : Int)
      have TX1 := TX.out (i : Int)
      by_cases pa : Bk.has l (i : Int)
      · by_cases pb : Bk.has m (i : Int)
        · have DA : Hid (decide (Bk.has l (i : Int)) = true) := Lib.hid (decide_eq_true pa)
          have DB : Hid (decide (Bk.has m (i : Int)) = true) := Lib.hid (decide_eq_true pb)
          have DN : Hid (decide (Bk.has n (i : Int)) = true) := Lib.hid (decide_eq_true (by rw [TN1]; exact pa))
          have DU : Hid (decide (Bk.has u (i : Int)) = true) := Lib.hid (decide_eq_true (by rw [TU1]; simp [pa, pb]))
          have DV : Hid (decide (Bk.has v (i : Int)) = true) := Lib.hid (decide_eq_true (by rw [TV1]; simp [pa, pb]))
          have DX : Hid (decide (Bk.has x (i : Int)) = false) := Lib.hid (decide_eq_false (by rw [TX1]; simp [pa, pb]))
          have DI : Hid (decide ((0 : Int) = 0 ∧ Bk.has l (i : Int)) = true) := Lib.hid (decide_eq_true ⟨rfl, pa⟩)
          clear pa pb TN1 TU1 TV1 TX1 hy
          go_wp2_with fail
          refine (lhas_any _ l (i : Int) true DA.out _ RA0.out).mono ?_
          rintro e V1 ⟨rfl, b⟩
          have B1 := Lib.hid (below_next B0.out b)
          have RA1 := Lib.hid (RA0.out.below b)
          have RB1 := Lib.hid (RB0.out.below b)
          have RN1 := Lib.hid (RN0.out.below b)
          have RU1 := Lib.hid (RU0.out.below b)
          have RV1 := Lib.hid (RV0.out.below b)
          have RX1 := Lib.hid (RX0.out.below b)
          clear b
          clear RA0 RB0 RN0 RU0 RV0 RX0 B0
          go_wp2_with fail
          refine (lhas_any _ m (i : Int) true DB.out _ RB1.out).mono ?_
          rintro e V2 ⟨rfl, b⟩
          have B2 := Lib.hid (below_next B1.out b)
          have RA2 := Lib.hid (RA1.out.below b)
          have RB2 := Lib.hid (RB1.out.below b)
          have RN2 := Lib.hid (RN1.out.below b)
          have RU2 := Lib.hid (RU1.out.below b)
          have RV2 := Lib.hid (RV1.out.below b)
          have RX2 := Lib.hid (RX1.out.below b)
          clear b
          clear RA1 RB1 RN1 RU1 RV1 RX1 B1
          go_wp2_with fail
          refine (in_any _ l (i : Int) true 0 EI.out (by simpa using DI.out) _ RA2.out).mono ?_
          rintro e V3 ⟨rfl, b⟩
          have B3 := Lib.hid (below_next B2.out b)
          have RA3 := Lib.hid (RA2.out.below b)
          have RB3 := Lib.hid (RB2.out.below b)
          have RN3 := Lib.hid (RN2.out.below b)
          have RU3 := Lib.hid (RU2.out.below b)
          have RV3 := Lib.hid (RV2.out.below b)
          have RX3 := Lib.hid (RX2.out.below b)
          clear b
          clear RA2 RB2 RN2 RU2 RV2 RX2 B2
          go_wp2_with fail
          refine (lhas_any _ n (i : Int) true DN.out _ RN3.out).mono ?_
          rintro e V4 ⟨rfl, b⟩
          have B4 := Lib.hid (below_next B3.out b)
          have RA4 := Lib.hid (RA3.out.below b)
          have RB4 := Lib.hid (RB3.out.below b)
          have RN4 := Lib.hid (RN3.out.below b)
          have RU4 := Lib.hid (RU3.out.below b)
          have RV4 := Lib.hid (RV3.out.below b)
          have RX4 := Lib.hid (RX3.out.below b)
          clear b
          clear RA3 RB3 RN3 RU3 RV3 RX3 B3
          go_wp2_with fail
          refine (lhas_any _ u (i : Int) true DU.out _ RU4.out).mono ?_
          rintro e V5 ⟨rfl, b⟩
          have B5 := Lib.hid (below_next B4.out b)
          have RA5 := Lib.hid (RA4.out.below b)
          have RB5 := Lib.hid (RB4.out.below b)
          have RN5 := Lib.hid (RN4.out.below b)
          have RU5 := Lib.hid (RU4.out.below b)
          have RV5 := Lib.hid (RV4.out.below b)
          have RX5 := Lib.hid (RX4.out.below b)
          clear b
          clear RA4 RB4 RN4 RU4 RV4 RX4 B4
          go_wp2_with fail
          refine (lhas_any _ v (i : Int) true DV.out _ RV5.out).mono ?_
          rintro e V6 ⟨rfl, b⟩
          have B6 := Lib.hid (below_next B5.out b)
          have RA6 := Lib.hid (RA5.out.below b)
          have RB6 := Lib.hid (RB5.out.below b)
          have RN6 := Lib.hid (RN5.out.below b)
          have RU6 := Lib.hid (RU5.out.below b)
          have RV6 := Lib.hid (RV5.out.below b)
          have RX6 := Lib.hid (RX5.out.below b)
          clear b
          clear RA5 RB5 RN5 RU5 RV5 RX5 B5
          go_wp2_with fail
          refine (lhas_any _ x (i : Int) false DX.out _ RX6.out).mono ?_
          rintro e V7 ⟨rfl, b⟩
          have B7 := Lib.hid (below_next B6.out b)
          have RA7 := Lib.hid (RA6.out.below b)
          have RB7 := Lib.hid (RB6.out.below b)
          have RN7 := Lib.hid (RN6.out.below b)
          have RU7 := Lib.hid (RU6.out.below b)
          have RV7 := Lib.hid (RV6.out.below b)
          have RX7 := Lib.hid (RX6.out.below b)
          clear b
          clear RA6 RB6 RN6 RU6 RV6 RX6 B6
          go_wp2_with fail
          go_roundw
          case rel => exact ⟨i + 1, by omega, by go_num, B7⟩
          case measure => simp [intOf]; omega
        · have DA : Hid (decide (Bk.has l (i : Int)) = true) := Lib.hid (decide_eq_true pa)
          have DB : Hid (decide (Bk.has m (i : Int)) = false) := Lib.hid (decide_eq_false pb)
          have DN : Hid (decide (Bk.has n (i : Int)) = true) := Lib.hid (decide_eq_true (by rw [TN1]; exact pa))
          have DU : Hid (decide (Bk.has u (i : Int)) = true) := Lib.hid (decide_eq_true (by rw [TU1]; simp [pa, pb]))
          have DV : Hid (decide (Bk.has v (i : Int)) = false) := Lib.hid (decide_eq_false (by rw [TV1]; simp [pa, pb]))
          have DX : Hid (decide (Bk.has x (i : Int)) = true) := Lib.hid (decide_eq_true (by rw [TX1]; simp [pa, pb]))
          have DI : Hid (decide ((0 : Int) = 0 ∧ Bk.has l (i : Int)) = true) := Lib.hid (decide_eq_true ⟨rfl, pa⟩)
          clear pa pb TN1 TU1 TV1 TX1 hy
          go_wp2_with fail
          refine (lhas_any _ l (i : Int) true DA.out _ RA0.out).mono ?_
          rintro e V1 ⟨rfl, b⟩
          have B1 := Lib.hid (below_next B0.out b)
          have RA1 := Lib.hid (RA0.out.below b)
          have RB1 := Lib.hid (RB0.out.below b)
          have RN1 := Lib.hid (RN0.out.below b)
          have RU1 := Lib.hid (RU0.out.below b)
          have RV1 := Lib.hid (RV0.out.below b)
          have RX1 := Lib.hid (RX0.out.below b)
          clear b
          clear RA0 RB0 RN0 RU0 RV0 RX0 B0
          go_wp2_with fail
          refine (lhas_any _ m (i : Int) false DB.out _ RB1.out).mono ?_
          rintro e V2 ⟨rfl, b⟩
          have B2 := Lib.hid (below_next B1.out b)
          have RA2 := Lib.hid (RA1.out.below b)
          have RB2 := Lib.hid (RB1.out.below b)
          have RN2 := Lib.hid (RN1.out.below b)
          have RU2 := Lib.hid (RU1.out.below b)
          have RV2 := Lib.hid (RV1.out.below b)
          have RX2 := Lib.hid (RX1.out.below b)
          clear b
          clear RA1 RB1 RN1 RU1 RV1 RX1 B1
          go_wp2_with fail
          refine (in_any _ l (i : Int) true 0 EI.out (by simpa using DI.out) _ RA2.out).mono ?_
          rintro e V3 ⟨rfl, b⟩
          have B3 := Lib.hid (below_next B2.out b)
          have RA3 := Lib.hid (RA2.out.below b)
          have RB3 := Lib.hid (RB2.out.below b)
          have RN3 := Lib.hid (RN2.out.below b)
          have RU3 := Lib.hid (RU2.out.below b)
          have RV3 := Lib.hid (RV2.out.below b)
          have RX3 := Lib.hid (RX2.out.below b)
          clear b
          clear RA2 RB2 RN2 RU2 RV2 RX2 B2
          go_wp2_with fail
          refine (lhas_any _ n (i : Int) true DN.out _ RN3.out).mono ?_
          rintro e V4 ⟨rfl, b⟩
          have B4 := Lib.hid (below_next B3.out b)
          have RA4 := Lib.hid (RA3.out.below b)
          have RB4 := Lib.hid (RB3.out.below b)
          have RN4 := Lib.hid (RN3.out.below b)
          have RU4 := Lib.hid (RU3.out.below b)
          have RV4 := Lib.hid (RV3.out.below b)
          have RX4 := Lib.hid (RX3.out.below b)
          clear b
          clear RA3 RB3 RN3 RU3 RV3 RX3 B3
          go_wp2_with fail
          refine (lhas_any _ u (i : Int) true DU.out _ RU4.out).mono ?_
          rintro e V5 ⟨rfl, b⟩
          have B5 := Lib.hid (below_next B4.out b)
          have RA5 := Lib.hid (RA4.out.below b)
          have RB5 := Lib.hid (RB4.out.below b)
          have RN5 := Lib.hid (RN4.out.below b)
          have RU5 := Lib.hid (RU4.out.below b)
          have RV5 := Lib.hid (RV4.out.below b)
          have RX5 := Lib.hid (RX4.out.below b)
          clear b
          clear RA4 RB4 RN4 RU4 RV4 RX4 B4
          go_wp2_with fail
          refine (lhas_any _ v (i : Int) false DV.out _ RV5.out).mono ?_
          rintro e V6 ⟨rfl, b⟩
          have B6 := Lib.hid (below_next B5.out b)
          have RA6 := Lib.hid (RA5.out.below b)
          have RB6 := Lib.hid (RB5.out.below b)
          have RN6 := Lib.hid (RN5.out.below b)
          have RU6 := Lib.hid (RU5.out.below b)
          have RV6 := Lib.hid (RV5.out.below b)
          have RX6 := Lib.hid (RX5.out.below b)
          clear b
          clear RA5 RB5 RN5 RU5 RV5 RX5 B5
          go_wp2_with fail
          refine (lhas_any _ x (i : Int) true DX.out _ RX6.out).mono ?_
          rintro e V7 ⟨rfl, b⟩
          have B7 := Lib.hid (below_next B6.out b)
          have RA7 := Lib.hid (RA6.out.below b)
          have RB7 := Lib.hid (RB6.out.below b)
          have RN7 := Lib.hid (RN6.out.below b)
          have RU7 := Lib.hid (RU6.out.below b)
          have RV7 := Lib.hid (RV6.out.below b)
          have RX7 := Lib.hid (RX6.out.below b)
          clear b
          clear RA6 RB6 RN6 RU6 RV6 RX6 B6
          go_wp2_with fail
          go_roundw
          case rel => exact ⟨i + 1, by omega, by go_num, B7⟩
          case measure => simp [intOf]; omega
      · by_cases pb : Bk.has m (i : Int)
        · have DA : Hid (decide (Bk.has l (i : Int)) = false) := Lib.hid (decide_eq_false pa)
          have DB : Hid (decide (Bk.has m (i : Int)) = true) := Lib.hid (decide_eq_true pb)
          have DN : Hid (decide (Bk.has n (i : Int)) = false) := Lib.hid (decide_eq_false (by rw [TN1]; exact pa))
          have DU : Hid (decide (Bk.has u (i : Int)) = true) := Lib.hid (decide_eq_true (by rw [TU1]; simp [pa, pb]))
          have DV : Hid (decide (Bk.has v (i : Int)) = false) := Lib.hid (decide_eq_false (by rw [TV1]; simp [pa, pb]))
          have DX : Hid (decide (Bk.has x (i : Int)) = false) := Lib.hid (decide_eq_false (by rw [TX1]; simp [pa, pb]))
          have DI : Hid (decide ((0 : Int) = 0 ∧ Bk.has l (i : Int)) = false) := Lib.hid (decide_eq_false (fun h => pa h.2))
          clear pa pb TN1 TU1 TV1 TX1 hy
          go_wp2_with fail
          refine (lhas_any _ l (i : Int) false DA.out _ RA0.out).mono ?_
          rintro e V1 ⟨rfl, b⟩
          have B1 := Lib.hid (below_next B0.out b)
          have RA1 := Lib.hid (RA0.out.below b)
          have RB1 := Lib.hid (RB0.out.below b)
          have RN1 := Lib.hid (RN0.out.below b)
          have RU1 := Lib.hid (RU0.out.below b)
          have RV1 := Lib.hid (RV0.out.below b)
          have RX1 := Lib.hid (RX0.out.below b)
          clear b
          clear RA0 RB0 RN0 RU0 RV0 RX0 B0
          go_wp2_with fail
          refine (lhas_any _ m (i : Int) true DB.out _ RB1.out).mono ?_
          rintro e V2 ⟨rfl, b⟩
          have B2 := Lib.hid (below_next B1.out b)
          have RA2 := Lib.hid (RA1.out.below b)
          have RB2 := Lib.hid (RB1.out.below b)
          have RN2 := Lib.hid (RN1.out.below b)
          have RU2 := Lib.hid (RU1.out.below b)
          have RV2 := Lib.hid (RV1.out.below b)
          have RX2 := Lib.hid (RX1.out.below b)
          clear b
          clear RA1 RB1 RN1 RU1 RV1 RX1 B1
          go_wp2_with fail
          refine (in_any _ l (i : Int) false 0 EI.out (by simpa using DI.out) _ RA2.out).mono ?_
          rintro e V3 ⟨rfl, b⟩
          have B3 := Lib.hid (below_next B2.out b)
          have RA3 := Lib.hid (RA2.out.below b)
          have RB3 := Lib.hid (RB2.out.below b)
          have RN3 := Lib.hid (RN2.out.below b)
          have RU3 := Lib.hid (RU2.out.below b)
          have RV3 := Lib.hid (RV2.out.below b)
          have RX3 := Lib.hid (RX2.out.below b)
          clear b
          clear RA2 RB2 RN2 RU2 RV2 RX2 B2
          go_wp2_with fail
          refine (lhas_any _ n (i : Int) false DN.out _ RN3.out).mono ?_
          rintro e V4 ⟨rfl, b⟩
          have B4 := Lib.hid (below_next B3.out b)
          have RA4 := Lib.hid (RA3.out.below b)
          have RB4 := Lib.hid (RB3.out.below b)
          have RN4 := Lib.hid (RN3.out.below b)
          have RU4 := Lib.hid (RU3.out.below b)
          have RV4 := Lib.hid (RV3.out.below b)
          have RX4 := Lib.hid (RX3.out.below b)
          clear b
          clear RA3 RB3 RN3 RU3 RV3 RX3 B3
          go_wp2_with fail
          refine (lhas_any _ u (i : Int) true DU.out _ RU4.out).mono ?_
          rintro e V5 ⟨rfl, b⟩
          have B5 := Lib.hid (below_next B4.out b)
          have RA5 := Lib.hid (RA4.out.below b)
          have RB5 := Lib.hid (RB4.out.below b)
          have RN5 := Lib.hid (RN4.out.below b)
          have RU5 := Lib.hid (RU4.out.below b)
          have RV5 := Lib.hid (RV4.out.below b)
          have RX5 := Lib.hid (RX4.out.below b)
          clear b
          clear RA4 RB4 RN4 RU4 RV4 RX4 B4
          go_wp2_with fail
          refine (lhas_any _ v (i : Int) false DV.out _ RV5.out).mono ?_
          rintro e V6 ⟨rfl, b⟩
          have B6 := Lib.hid (below_next B5.out b)
          have RA6 := Lib.hid (RA5.out.below b)
          have RB6 := Lib.hid (RB5.out.below b)
          have RN6 := Lib.hid (RN5.out.below b)
          have RU6 := Lib.hid (RU5.out.below b)
          have RV6 := Lib.hid (RV5.out.below b)
          have RX6 := Lib.hid (RX5.out.below b)
          clear b
          clear RA5 RB5 RN5 RU5 RV5 RX5 B5
          go_wp2_with fail
          refine (lhas_any _ x (i : Int) false DX.out _ RX6.out).mono ?_
          rintro e V7 ⟨rfl, b⟩
          have B7 := Lib.hid (below_next B6.out b)
          have RA7 := Lib.hid (RA6.out.below b)
          have RB7 := Lib.hid (RB6.out.below b)
          have RN7 := Lib.hid (RN6.out.below b)
          have RU7 := Lib.hid (RU6.out.below b)
          have RV7 := Lib.hid (RV6.out.below b)
          have RX7 := Lib.hid (RX6.out.below b)
          clear b
          clear RA6 RB6 RN6 RU6 RV6 RX6 B6
          go_wp2_with fail
          go_roundw
          case rel => exact ⟨i + 1, by omega, by go_num, B7⟩
          case measure => simp [intOf]; omega
        · have DA : Hid (decide (Bk.has l (i : Int)) = false) := Lib.hid (decide_eq_false pa)
          have DB : Hid (decide (Bk.has m (i : Int)) = false) := Lib.hid (decide_eq_false pb)
          have DN : Hid (decide (Bk.has n (i : Int)) = false) := Lib.hid (decide_eq_false (by rw [TN1]; exact pa))
          have DU : Hid (decide (Bk.has u (i : Int)) = false) := Lib.hid (decide_eq_false (by rw [TU1]; simp [pa, pb]))
          have DV : Hid (decide (Bk.has v (i : Int)) = false) := Lib.hid (decide_eq_false (by rw [TV1]; simp [pa, pb]))
          have DX : Hid (decide (Bk.has x (i : Int)) = false) := Lib.hid (decide_eq_false (by rw [TX1]; simp [pa, pb]))
          have DI : Hid (decide ((0 : Int) = 0 ∧ Bk.has l (i : Int)) = false) := Lib.hid (decide_eq_false (fun h => pa h.2))
          clear pa pb TN1 TU1 TV1 TX1 hy
          go_wp2_with fail
          refine (lhas_any _ l (i : Int) false DA.out _ RA0.out).mono ?_
          rintro e V1 ⟨rfl, b⟩
          have B1 := Lib.hid (below_next B0.out b)
          have RA1 := Lib.hid (RA0.out.below b)
          have RB1 := Lib.hid (RB0.out.below b)
          have RN1 := Lib.hid (RN0.out.below b)
          have RU1 := Lib.hid (RU0.out.below b)
          have RV1 := Lib.hid (RV0.out.below b)
          have RX1 := Lib.hid (RX0.out.below b)
          clear b
          clear RA0 RB0 RN0 RU0 RV0 RX0 B0
          go_wp2_with fail
          refine (lhas_any _ m (i : Int) false DB.out _ RB1.out).mono ?_
          rintro e V2 ⟨rfl, b⟩
          have B2 := Lib.hid (below_next B1.out b)
          have RA2 := Lib.hid (RA1.out.below b)
          have RB2 := Lib.hid (RB1.out.below b)
          have RN2 := Lib.hid (RN1.out.below b)
          have RU2 := Lib.hid (RU1.out.below b)
          have RV2 := Lib.hid (RV1.out.below b)
          have RX2 := Lib.hid (RX1.out.below b)
          clear b
          clear RA1 RB1 RN1 RU1 RV1 RX1 B1
          go_wp2_with fail
          refine (in_any _ l (i : Int) false 0 EI.out (by simpa using DI.out) _ RA2.out).mono ?_
          rintro e V3 ⟨rfl, b⟩
          have B3 := Lib.hid (below_next B2.out b)
          have RA3 := Lib.hid (RA2.out.below b)
          have RB3 := Lib.hid (RB2.out.below b)
          have RN3 := Lib.hid (RN2.out.below b)
          have RU3 := Lib.hid (RU2.out.below b)
          have RV3 := Lib.hid (RV2.out.below b)
          have RX3 := Lib.hid (RX2.out.below b)
          clear b
          clear RA2 RB2 RN2 RU2 RV2 RX2 B2
          go_wp2_with fail
          refine (lhas_any _ n (i : Int) false DN.out _ RN3.out).mono ?_
          rintro e V4 ⟨rfl, b⟩
          have B4 := Lib.hid (below_next B3.out b)
          have RA4 := Lib.hid (RA3.out.below b)
          have RB4 := Lib.hid (RB3.out.below b)
          have RN4 := Lib.hid (RN3.out.below b)
          have RU4 := Lib.hid (RU3.out.below b)
          have RV4 := Lib.hid (RV3.out.below b)
          have RX4 := Lib.hid (RX3.out.below b)
          clear b
          clear RA3 RB3 RN3 RU3 RV3 RX3 B3
          go_wp2_with fail
          refine (lhas_any _ u (i : Int) false DU.out _ RU4.out).mono ?_
          rintro e V5 ⟨rfl, b⟩
          have B5 := Lib.hid (below_next B4.out b)
          have RA5 := Lib.hid (RA4.out.below b)
          have RB5 := Lib.hid (RB4.out.below b)
          have RN5 := Lib.hid (RN4.out.below b)
          have RU5 := Lib.hid (RU4.out.below b)
          have RV5 := Lib.hid (RV4.out.below b)
          have RX5 := Lib.hid (RX4.out.below b)
          clear b
          clear RA4 RB4 RN4 RU4 RV4 RX4 B4
          go_wp2_with fail
          refine (lhas_any _ v (i : Int) false DV.out _ RV5.out).mono ?_
          rintro e V6 ⟨rfl, b⟩
          have B6 := Lib.hid (below_next B5.out b)
          have RA6 := Lib.hid (RA5.out.below b)
          have RB6 := Lib.hid (RB5.out.below b)
          have RN6 := Lib.hid (RN5.out.below b)
          have RU6 := Lib.hid (RU5.out.below b)
          have RV6 := Lib.hid (RV5.out.below b)
          have RX6 := Lib.hid (RX5.out.below b)
          clear b
          clear RA5 RB5 RN5 RU5 RV5 RX5 B5
          go_wp2_with fail
          refine (lhas_any _ x (i : Int) false DX.out _ RX6.out).mono ?_
          rintro e V7 ⟨rfl, b⟩
          have B7 := Lib.hid (below_next B6.out b)
          have RA7 := Lib.hid (RA6.out.below b)
          have RB7 := Lib.hid (RB6.out.below b)
          have RN7 := Lib.hid (RN6.out.below b)
          have RU7 := Lib.hid (RU6.out.below b)
          have RV7 := Lib.hid (RV6.out.below b)
          have RX7 := Lib.hid (RX6.out.below b)
          clear b
          clear RA6 RB6 RN6 RU6 RV6 RX6 B6
          go_wp2_with fail
          go_roundw
          case rel => exact ⟨i + 1, by omega, by go_num, B7⟩
          case measure => simp [intOf]; omega
    · have e0 : decide ((i : Int) < 202) = false := by rw [decide_eq_false_iff_not]; omega
      obtain rfl : i = 202 := by omega
      clear lt hi
      go_wp2_with fail
      refine (works_any _).mono ?_
      rintro e W2 ⟨rfl, b⟩
      have HB := Lib.hid (below_next (below_next B10.out B0.out) b)
      clear b
      go_wp2_with fail
      go_ret
      exact ⟨rfl, HB.out⟩

set_option maxRecDepth 100000 in
theorem lifted (os : Os) (started : os.Started) (H : Type) (enc : TypeId × Value → H) :
    ReturnsInHanded {} Try.checked os 7 .any (Rows.blackoutSetsSpec.pre6 enc Try.prog Try.f7 Rows.blackoutSetsRow.domain false) (Rows.blackoutSetsSpec.post enc Try.prog Try.f7 false true false false) := by
  refine returnsInHanded_of_change (C := Try.checked) own started (by kernel_rfl) Try.func7
    (ChangeSpec.witness6 (enc := enc) (C := Try.checked) false ⟨#[], #[.slice none 0 0, .slice none 0 0], []⟩ 8 (by kernel_rfl) (by kernel_rfl) (by kernel_rfl) (by kernel_rfl)) ?_
  intro W base args ds gs before hval0 hW hcnd _
  have hval : ∀ (j : Nat) t v, Try.f7.params[j]? = some t → args[j]? = some v → Value.okWide Try.prog W .any base t v := hval0
  have hW' := hW
  obtain ⟨p, q, hA0, hV, rfl, hfz, hnd⟩ := hW
  have hA : DataW.TrodAll enc Try.prog W 0 (fun _ => true) true Try.f7.params.toList args.toList ds p := hA0
  rw [Try.params7] at hA hval
  obtain ⟨v0, vs0, d0, ds0, p0, q0, hargs, rfl, rfl, h0, r0⟩ := trodAll_cons hA
  obtain ⟨v1, vs1, d1, ds1, p1, q1, rfl, rfl, rfl, h1, r1⟩ := trodAll_cons r0
  obtain ⟨rfl, rfl, rfl⟩ := trodAll_nil r1
  obtain rfl : args = #[v0, v1] := by cases args; simp_all
  obtain ⟨rfl, rfl⟩ := trodVars_none hV
  obtain ⟨a0, len0, cap0, rfl⟩ := okWide_slice Try.underlying43 (hval 0 43 v0 rfl rfl)
  have k0 := h0
  have lt0 : ∀ x ∈ p0, x.block < W.heap.size := by obtain ⟨m, hm⟩ := k0; exact DataW.trod_lt m _ _ _ hm
  obtain ⟨z0, w0⟩ : ∃ l, InP W a0 len0 cap0 l := by obtain ⟨fuel, hf⟩ := h0; exact open_pairs2 (by simpa [Value.cells] using hf)
  obtain ⟨a1, len1, cap1, rfl⟩ := okWide_slice Try.underlying43 (hval 1 43 v1 rfl rfl)
  have k1 := h1
  have lt1 : ∀ x ∈ p1, x.block < W.heap.size := by obtain ⟨m, hm⟩ := k1; exact DataW.trod_lt m _ _ _ hm
  obtain ⟨z1, w1⟩ : ∃ l, InP W a1 len1 cap1 l := by obtain ⟨fuel, hf⟩ := h1; exact open_pairs2 (by simpa [Value.cells] using hf)
  clear hA0 hval0
  refine (walk a0 len0 cap0 z0 a1 len1 cap1 z1 W w0 w1).mono fun e W' ⟨he, bel⟩ => ?_
  subst he
  exact ⟨_, rfl, _, _, _, [], _, [], hW', trodAll_mk1 (shut_bool Try.underlying4 _), (trodAll_cons_mk (Below.trod laidOut (by kernel_rfl) (of_decide_eq_true (by kernel_rfl)) k0 bel lt0) (trodAll_cons_mk (Below.trod laidOut (by kernel_rfl) (of_decide_eq_true (by kernel_rfl)) k1 bel lt1) trodAll_mk0)), rfl, bel.frame _, fun h => by cases h⟩

theorem proved : Rows.BlackoutSetsSaid :=
  OpenClaim.holds_of_wide 7 Try.f7 rfl rfl rfl rfl rfl rfl rfl ⟨rfl, rfl, rfl, rfl, rfl⟩ rfl rfl rfl rfl rfl (by kernel_rfl) Try.func7 (by kernel_rfl)
    (of_decide_eq_true (by kernel_rfl)) (by unfold Func.isWrapper; first | (rw [if_pos (by decide +kernel)]; kernel_rfl) | (rw [if_neg (by decide +kernel)]; exact ⟨rfl, rfl⟩))
    (fun os started H enc _ => lifted os started H enc)

end Go.Proofs.Ytodjipbkeddbcaa.blackoutSets
