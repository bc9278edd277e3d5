/- Contracts of sinceMidnight and Count of package match. -/
import Derived.Test.YtbehendogcghjaaDoorMatN
import Derived.Deep.RegionHeld3
namespace Go.Proofs.YtbehendogcghjaaDoor
open Go.ChangeShapes Go.RowKit Go.Shelf

theorem cnt_q (S c : Nat) (hS : S < 2 ^ 64) (h : (Bit.mem S).length = c) (w : World) :
    Calls Tryd.prog 70 #[.int .u64 S] w fun e w' => e = .returned (.int .i64 c) ∧ w' = w :=
  (count_any S hS w).mono fun _ _ ⟨h1, h2⟩ => ⟨by rw [h1, h], h2.symm⟩
/-- the numbers of a set below one of them -/
theorem low_count (S k : Nat) (hk : k < 64) : (Bit.mem (S &&& (2 ^ k - 1))).length = (Bit.memTo S k).length := by
  have e : ∀ m, m ≤ 64 → (Bit.memTo (S &&& (2 ^ k - 1)) m).length = (Bit.memTo S (min m k)).length := by
    intro m
    induction m with
    | zero => intro _; rw [Nat.zero_min]; rfl
    | succ m ih =>
      intro hm
      rw [memTo_len_succ, ih (by omega), Nat.testBit_and, Nat.testBit_two_pow_sub_one]
      by_cases c : m < k
      · rw [Nat.min_eq_left (by omega), Nat.min_eq_left (by omega), memTo_len_succ]
        simp [c]
      · rw [Nat.min_eq_right (by omega), Nat.min_eq_right (by omega)]
        simp [c]
  have := e 64 (Nat.le_refl _)
  rw [Nat.min_eq_right (by omega)] at this
  exact this
/-- what a round over a part of the clock is told: the set, the number now, how many before -/
structure Part (S v c E E' n n' P Q R l M : Nat) (b : Bool) : Prop where
  hS : S < 2 ^ 64
  hc : (Bit.mem S).length = c
  hR : R < 2 ^ 64
  hl : (Bit.mem R).length = l
  hb : S.testBit v = b
  mn : min v 64 = v
  z1 : (c : Int) ≠ 0
  z2 : c ≠ 0
  c0 : ((c : Int) == 0) = false
  c1 : (c == 0) = false
  q1 : ((E : Nat) : Int).tdiv (c : Int) = (E' : Int)
  q2 : ((E : Nat) : Int) / (c : Int) = (E' : Int)
  q3 : IntKind.i64.wrap (E' : Int) = (E' : Int)
  p1 : (2 : Int) ^ v = (P : Int)
  p2 : IntKind.u64.wrap (P : Int) = (P : Int)
  p3 : IntKind.u64.wrap ((P : Int) - 1) = (Q : Int)
  p4 : bits .and .u64 (S : Int) (Q : Int) = (R : Int)
  m2 : IntKind.i64.wrap ((E' : Int) * (l : Int)) = (M : Int)
  m3 : IntKind.i64.wrap ((n : Int) + (M : Int)) = (n' : Int)
  m4 : IntKind.i64.wrap (l : Int) = (l : Int)
  m5 : IntKind.i64.wrap (M : Int) = (M : Int)
theorem part_ex {S v c E' n : Nat} (hS : S < 2 ^ 64) (hv : v < 60) (hc : (Bit.mem S).length = c) (c1 : 1 ≤ c) (he : E' ≤ 100000) (hn : n ≤ 1000000000) :
    ∃ P Q R, Part S v c (E' * c) E' n (n + E' * (Bit.memTo S v).length) P Q R (Bit.memTo S v).length (E' * (Bit.memTo S v).length) (S.testBit v) := by
  have hp := Bit.one_lt (v := v) (by omega)
  have hp0 := Nat.two_pow_pos v
  have hl := Bit.memTo_len S v
  have hm : E' * (Bit.memTo S v).length ≤ 100000 * 60 := Nat.mul_le_mul he (by omega)
  have cp : (0 : Int) < (c : Int) := by omega
  refine ⟨2 ^ v, 2 ^ v - 1, S &&& (2 ^ v - 1), hS, hc, Nat.lt_of_le_of_lt Nat.and_le_left hS, low_count S v (by omega), rfl, by omega, by omega, by omega, by rw [beq_eq_false_iff_ne]; omega, by rw [beq_eq_false_iff_ne]; omega, ?_, ?_, by rw [IntKind.wrap_i64]; omega, by simp, ?_, ?_, ?_, ?_, ?_, ?_, ?_⟩
  · rw [Int.natCast_mul, Int.mul_tdiv_cancel _ (by omega)]
  · rw [Int.natCast_mul, Int.mul_ediv_cancel _ (by omega)]
  · rw [IntKind.wrap_u64]; omega
  · rw [IntKind.wrap_u64]; omega
  · exact u64_and_nat S _ hS (by omega)
  · rw [← Int.natCast_mul, IntKind.wrap_i64]; omega
  · rw [IntKind.wrap_i64]; omega
  · rw [IntKind.wrap_i64]; omega
  · rw [IntKind.wrap_i64]; omega
theorem part_at0 (a b c d e f : Int) (W : World) : (Instr.index 94 (.agg #[.int .u64 a, .int .i64 b, .int .u64 c, .int .i64 d, .int .u64 e, .int .i64 f]) (.int .i64 0)).run Tryd.prog W = .ok (.agg #[.int .u64 a, .int .i64 b]) W := by kernel_rfl
theorem part_at1 (a b c d e f : Int) (W : World) : (Instr.index 94 (.agg #[.int .u64 a, .int .i64 b, .int .u64 c, .int .i64 d, .int .u64 e, .int .i64 f]) (.int .i64 1)).run Tryd.prog W = .ok (.agg #[.int .u64 c, .int .i64 d]) W := by kernel_rfl
theorem part_at2 (a b c d e f : Int) (W : World) : (Instr.index 94 (.agg #[.int .u64 a, .int .i64 b, .int .u64 c, .int .i64 d, .int .u64 e, .int .i64 f]) (.int .i64 2)).run Tryd.prog W = .ok (.agg #[.int .u64 e, .int .i64 f]) W := by kernel_rfl
set_option maxRecDepth 100000 in
set_option maxHeartbeats 8000000 in
theorem since_any (x : Exp.Ex) (hok : x.Ok) (t : Nat) (t1 : t ≤ 253402300800) (w : World) (L : LayM w) :
    Calls Tryd.prog 50 #[.agg #[.int .u64 x.a0, .int .u64 x.a1, .int .u64 x.a2, .int .u64 x.a3, .int .u64 x.a4, .int .u64 x.a5, .bool x.b3, .bool x.b5], .int .i64 t] w fun e W' => e = .returned (.int .i64 (sinceN x t : Nat)) ∧ Below w.heap.size w W' := by
  have hx := bd_of hok
  have OD := Lib.hid (fun w0 L0 => onDate_any x hok t (by omega) (by omega) w0 L0)
  have LL := Lib.hid (L.alloc (.cells #[.int .u64 x.a0, .int .u64 x.a1, .int .u64 x.a2, .int .u64 x.a3, .int .u64 x.a4, .int .u64 x.a5, .bool x.b3, .bool x.b5] 24))
  have SE := Lib.hid (fun w0 : World => seconds_any x hx w0)
  have R0 := Lib.hid (Row.new w (exL x) 24)
  have HB := Lib.hid ((Below.refl _ w).alloc (Nat.le_refl _) (.cells #[.int .u64 x.a0, .int .u64 x.a1, .int .u64 x.a2, .int .u64 x.a3, .int .u64 x.a4, .int .u64 x.a5, .bool x.b3, .bool x.b5] 24))
  rw [if_pos (Exp.okB_iff.2 hok), Exp.okB_iff.2 hok] at SE
  simp only [errOk, if_true] at SE
  cases hd : x.onB ((t : Int) / 86400) with
  | false =>
    have E : Hid (sinceN x t = 0) := Lib.hid (by
      unfold sinceN
      rw [if_neg]
      have := onB_no.1 hd
      rwa [show ((t / 86400 : Nat) : Int) = (t : Int) / 86400 by omega])
    rw [hd] at OD
    clear hd hok hx L t1
    go_enter Tryd.func50, Tryd.ntmps50
    go_wp2_with (go_at_call 35; refine (OD.out _ LL.out).mono ?_; rintro e V ⟨rfl, hb⟩; have HV := Lib.hid (HB.out.trans (hb.mono HB.out.size)); clear hb)
    go_ret
    exact ⟨by rw [E.out]; rfl, HV.out⟩
  | true =>
    have E : Hid (sinceN x t = cntN x.ck 0 (t % 86400)) := Lib.hid (by
      unfold sinceN
      rw [if_pos]
      have := onB_iff.1 hd
      rwa [show ((t / 86400 : Nat) : Int) = (t : Int) / 86400 by omega])
    rw [hd] at OD
    obtain ⟨r, hr⟩ : ∃ r, t % 86400 = r := ⟨_, rfl⟩
    have r1 : r < 86400 := by omega
    have CL := Lib.hid (fun w0 : World => clock_any r w0 r1)
    have tr : ((t : Nat) : Int).tmod 86400 = (r : Int) := by rw [Int.tmod_eq_emod_of_nonneg (by omega)]; omega
    have tr' : ((t : Nat) : Int) % 86400 = (r : Int) := by omega
    rw [hr] at E
    obtain ⟨h, hh⟩ : ∃ h, r / 3600 = h := ⟨_, rfl⟩
    obtain ⟨i, hi⟩ : ∃ i, r % 3600 / 60 = i := ⟨_, rfl⟩
    obtain ⟨s, hs⟩ : ∃ s, r % 60 = s := ⟨_, rfl⟩
    rw [hh, hi, hs] at CL
    have hrr : r = 3600 * h + 60 * i + s := by omega
    have hb : h < 24 ∧ i < 60 ∧ s < 60 := by omega
    have CB := cnt_before hok hb.1 hb.2.1 hb.2.2
    rw [← hrr] at CB
    rw [CB] at E
    obtain ⟨n0, h0⟩ : ∃ n, (Bit.mem x.a0).length = n := ⟨_, rfl⟩
    obtain ⟨n1, h1⟩ : ∃ n, (Bit.mem x.a1).length = n := ⟨_, rfl⟩
    obtain ⟨n2, h2⟩ : ∃ n, (Bit.mem x.a2).length = n := ⟨_, rfl⟩
    have hp : ∀ S, S ≠ 0 → S < 2 ^ 64 → 1 ≤ (Bit.mem S).length := fun S hz hS => by
      obtain ⟨v, hv⟩ := bit_some hz
      exact List.length_pos_iff.2 (List.ne_nil_of_mem (Bit.mem_iff.2 ⟨set_hi hS hv, hv⟩))
    have p0 : 1 ≤ n0 := by rw [← h0]; exact hp _ (hok.ne 0 (by decide)) (hx 0 (by decide))
    have p1 : 1 ≤ n1 := by rw [← h1]; exact hp _ (hok.ne 1 (by decide)) (hx 1 (by decide))
    have p2 : 1 ≤ n2 := by rw [← h2]; exact hp _ (hok.ne 2 (by decide)) (hx 2 (by decide))
    have b0 : n0 ≤ 60 := by rw [← h0, ← Bit.memTo_all, memTo_big (fun v hv => Nat.lt_succ_of_le (bit0 hok hv)) 64 (by omega)]; exact Bit.memTo_len _ _
    have b1 : n1 ≤ 60 := by rw [← h1, ← Bit.memTo_all, memTo_big (fun v hv => Nat.lt_succ_of_le (bit1 hok hv)) 64 (by omega)]; exact Bit.memTo_len _ _
    have m01 : n0 * n1 ≤ 60 * 60 := Nat.mul_le_mul b0 b1
    have hsec : x.secs = n0 * n1 * n2 := by unfold Exp.Ex.secs; rw [h0, h1, h2]
    rw [hsec] at SE
    rw [h0, h1] at E
    obtain ⟨l2, hl2⟩ : ∃ l, (Bit.memTo x.a2 h).length = l := ⟨_, rfl⟩
    obtain ⟨l1, hl1⟩ : ∃ l, (Bit.memTo x.a1 i).length = l := ⟨_, rfl⟩
    obtain ⟨l0, hl0⟩ : ∃ l, (Bit.memTo x.a0 s).length = l := ⟨_, rfl⟩
    have k2 : l2 ≤ 24 := by rw [← hl2]; have := Bit.memTo_len x.a2 h; omega
    have k1 : l1 ≤ 60 := by rw [← hl1]; have := Bit.memTo_len x.a1 i; omega
    have q2 : n0 * n1 * l2 ≤ 3600 * 24 := Nat.mul_le_mul m01 k2
    have q1 : n0 * l1 ≤ 60 * 60 := Nat.mul_le_mul b0 k1
    obtain ⟨P2, Q2, R2, PA2⟩ := part_ex (E' := n0 * n1) (n := 0) (hx 2 (by decide)) (show h < 60 by omega) h2 p2 (by omega) (by omega)
    obtain ⟨P1, Q1, R1, PA1⟩ := part_ex (E' := n0) (n := n0 * n1 * l2) (hx 1 (by decide)) hb.2.1 h1 p1 (by omega) (by omega)
    obtain ⟨P0, Q0, R3, PA0⟩ := part_ex (E' := 1) (n := n0 * n1 * l2 + n0 * l1) (hx 0 (by decide)) hb.2.2 h0 p0 (by omega) (by omega)
    simp only [Exp.Ex.at] at PA2 PA1 PA0
    rw [hl2] at PA2 E
    rw [hl1] at PA1 E
    rw [hl0] at PA0 E
    rw [Nat.zero_add] at PA2
    rw [Nat.one_mul, Nat.one_mul] at PA0
    obtain ⟨M2, hM2⟩ : ∃ M, n0 * n1 * l2 = M := ⟨_, rfl⟩
    obtain ⟨M1, hM1⟩ : ∃ M, n0 * l1 = M := ⟨_, rfl⟩
    rw [hM2] at PA2 PA1 PA0 E
    rw [hM1] at PA1 PA0 E
    have H2 := Lib.hid PA2; have H1 := Lib.hid PA1; have H0 := Lib.hid PA0
    obtain ⟨c2, hc2⟩ : ∃ b, x.a2.testBit h = b := ⟨_, rfl⟩
    obtain ⟨c1, hc1⟩ : ∃ b, x.a1.testBit i = b := ⟨_, rfl⟩
    obtain ⟨c0, hc0⟩ : ∃ b, x.a0.testBit s = b := ⟨_, rfl⟩
    rw [hc2] at H2 E
    rw [hc1] at H1 E
    rw [hc0] at H0
    clear PA2 PA1 PA0 hc2 hc1 hc0 hM2 hM1 q1 q2 k1 k2 hl0 hl1 hl2 hsec m01 b0 b1 p0 p1 p2 hp h0 h1 h2 CB hrr hb hh hi hs r1 hr hd hok hx L t1
    have es := E.out
    clear E
    obtain ⟨e0, he0⟩ : ∃ e, n0 * n1 * n2 = e := ⟨_, rfl⟩
    obtain ⟨e1, he1⟩ : ∃ e, n0 * n1 = e := ⟨_, rfl⟩
    rw [he0] at SE H2
    rw [he1] at H2 H1
    obtain ⟨m2, hm2⟩ : ∃ m, M2 + M1 = m := ⟨_, rfl⟩
    rw [hm2] at H1 H0
    obtain ⟨m3, hm3⟩ : ∃ m, m2 + l0 = m := ⟨_, rfl⟩
    rw [hm3] at H0
    have ES : Hid (sinceN x t = if c2 = true then (if c1 = true then m3 else m2) else M2) := Lib.hid (by rw [es]; cases c2 <;> cases c1 <;> simp <;> omega)
    clear es he0 he1 hm2 hm3
    go_enter Tryd.func50, Tryd.ntmps50
    go_wp2_with (first
      | (go_at_call 35; refine (OD.out _ LL.out).mono ?_; rintro e V ⟨rfl, hb⟩; have HV := Lib.hid (HB.out.trans (hb.mono HB.out.size)); have RV := Lib.hid (R0.out.below hb); obtain ⟨y0, y1, y2, y3, y4, y5, y6, y7⟩ := row_cells RV.out; clear hb)
      | (go_at_call 71; refine (CL.out _).mono ?_; rintro e V' ⟨rfl, rfl⟩)
      | (go_at_call 48; refine (SE.out _).mono ?_; rintro e V2 ⟨rfl, hb⟩; have HV2 := Lib.hid (HV.out.trans (hb.mono HV.out.size)); obtain ⟨z0, z1, z2, z3, z4, z5, z6, z7⟩ := row_cells (RV.out.below hb); clear hb y0 y1 y2 y3 y4 y5 y6 y7))
    go_loopw [8, 10, 42] (fun ev nv iv wr => Hid (Below w.heap.size w wr) ∧ ((iv = .int .i64 0 ∧ ev = .int .i64 e0 ∧ nv = .int .i64 0) ∨ (iv = .int .i64 1 ∧ ev = .int .i64 e1 ∧ nv = .int .i64 M2 ∧ Hid (c2 = true)) ∨ (iv = .int .i64 2 ∧ ev = .int .i64 n0 ∧ nv = .int .i64 m2 ∧ Hid (c2 = true ∧ c1 = true)) ∨ (iv = .int .i64 3 ∧ ev = .int .i64 1 ∧ nv = .int .i64 m3 ∧ Hid (c2 = true ∧ c1 = true)))) (fun _ _ iv _ => 3 - (intOf iv).toNat)
    case atStart => exact ⟨HV2, .inl ⟨rfl, rfl, rfl⟩⟩
    case round =>
      obtain ⟨hbw, hrel⟩ := hrel
      have HBW := Lib.hid (fun o k => below_drewN' (hbw.out.alloc hbw.out.size o) k)
      rcases hrel with ⟨rfl, rfl, rfl⟩ | ⟨rfl, rfl, rfl, hc⟩ | ⟨rfl, rfl, rfl, hc⟩ | ⟨rfl, rfl, rfl, hc⟩
      · obtain ⟨hS, hcc, hR, hl, hb, gmn, gz1, gz2, g1, g2, g3, g4, g5, g6, g7, g8, g9, g10, g11, g12⟩ := H2.out
        have ix := fun (W : World) => part_at0 x.a2 h x.a1 i x.a0 s W
        cases c2 with
        | true =>
          go_wp2_with (first | (go_at_call 70; refine (cnt_q _ _ (by assumption) (by assumption) _).mono ?_; rintro e V' ⟨rfl, rfl⟩))
          go_quiet (first | (go_at_call 70; exact Calls.quiet_of_same (cnt_q _ _ (by assumption) (by assumption) _)))
          go_wp2_with (first | (go_at_call 72; refine (has_nat_any _ _ _ hS hb _).mono ?_; rintro e V' ⟨rfl, rfl⟩))
          go_roundw
          case rel => exact ⟨Lib.hid (HBW.out _ _), .inr (.inl ⟨rfl, rfl, rfl, Lib.hid (by first | rfl | trivial)⟩)⟩
          case measure => simp [intOf]
        | false =>
          go_wp2_with (first | (go_at_call 70; refine (cnt_q _ _ (by assumption) (by assumption) _).mono ?_; rintro e V' ⟨rfl, rfl⟩))
          go_quiet (first | (go_at_call 70; exact Calls.quiet_of_same (cnt_q _ _ (by assumption) (by assumption) _)))
          go_wp2_with (first | (go_at_call 72; refine (has_nat_any _ _ _ hS hb _).mono ?_; rintro e V' ⟨rfl, rfl⟩))
          go_ret
          exact ⟨by rw [ES.out]; rfl, HBW.out _ _⟩
      · obtain ⟨hS, hcc, hR, hl, hb, gmn, gz1, gz2, g1, g2, g3, g4, g5, g6, g7, g8, g9, g10, g11, g12⟩ := H1.out
        have ix := fun (W : World) => part_at1 x.a2 h x.a1 i x.a0 s W
        have HC2 := hc
        clear hc
        cases c1 with
        | true =>
          go_wp2_with (first | (go_at_call 70; refine (cnt_q _ _ (by assumption) (by assumption) _).mono ?_; rintro e V' ⟨rfl, rfl⟩))
          go_quiet (first | (go_at_call 70; exact Calls.quiet_of_same (cnt_q _ _ (by assumption) (by assumption) _)))
          go_wp2_with (first | (go_at_call 72; refine (has_nat_any _ _ _ hS hb _).mono ?_; rintro e V' ⟨rfl, rfl⟩))
          go_roundw
          case rel => exact ⟨Lib.hid (HBW.out _ _), .inr (.inr (.inl ⟨rfl, rfl, rfl, Lib.hid ⟨HC2.out, by first | rfl | trivial⟩⟩))⟩
          case measure => simp [intOf]
        | false =>
          go_wp2_with (first | (go_at_call 70; refine (cnt_q _ _ (by assumption) (by assumption) _).mono ?_; rintro e V' ⟨rfl, rfl⟩))
          go_quiet (first | (go_at_call 70; exact Calls.quiet_of_same (cnt_q _ _ (by assumption) (by assumption) _)))
          go_wp2_with (first | (go_at_call 72; refine (has_nat_any _ _ _ hS hb _).mono ?_; rintro e V' ⟨rfl, rfl⟩))
          go_ret
          exact ⟨by rw [ES.out, HC2.out]; rfl, HBW.out _ _⟩
      · obtain ⟨hS, hcc, hR, hl, hb, gmn, gz1, gz2, g1, g2, g3, g4, g5, g6, g7, g8, g9, g10, g11, g12⟩ := H0.out
        have ix := fun (W : World) => part_at2 x.a2 h x.a1 i x.a0 s W
        have HC2 := hc
        clear hc
        have ES' : Hid (sinceN x t = m3) := Lib.hid (by rw [ES.out, HC2.out.1, HC2.out.2]; rfl)
        cases c0 with
        | true =>
          go_wp2_with (first | (go_at_call 70; refine (cnt_q _ _ (by assumption) (by assumption) _).mono ?_; rintro e V' ⟨rfl, rfl⟩))
          go_quiet (first | (go_at_call 70; exact Calls.quiet_of_same (cnt_q _ _ (by assumption) (by assumption) _)))
          go_wp2_with (first | (go_at_call 72; refine (has_nat_any _ _ _ hS hb _).mono ?_; rintro e V' ⟨rfl, rfl⟩))
          go_roundw
          case rel => exact ⟨Lib.hid (HBW.out _ _), .inr (.inr (.inr ⟨rfl, rfl, rfl, HC2⟩))⟩
          case measure => simp [intOf]
        | false =>
          go_wp2_with (first | (go_at_call 70; refine (cnt_q _ _ (by assumption) (by assumption) _).mono ?_; rintro e V' ⟨rfl, rfl⟩))
          go_quiet (first | (go_at_call 70; exact Calls.quiet_of_same (cnt_q _ _ (by assumption) (by assumption) _)))
          go_wp2_with (first | (go_at_call 72; refine (has_nat_any _ _ _ hS hb _).mono ?_; rintro e V' ⟨rfl, rfl⟩))
          go_ret
          exact ⟨by rw [ES'.out]; rfl, HBW.out _ _⟩
      · have HC2 := hc
        clear hc
        have ES' : Hid (sinceN x t = m3) := Lib.hid (by rw [ES.out, HC2.out.1, HC2.out.2]; rfl)
        go_wp2_with fail
        go_ret
        exact ⟨by rw [ES'.out]; rfl, hbw.out⟩

/-! Count -/
theorem cnt_within {P : Int → Prop} {A f : Int} {n m : Nat} (h0 : A ≤ f) (h1 : f + (m : Nat) ≤ A + (n : Nat)) (hl : ∀ y, A ≤ y → y < f → ¬ P y) (hr : ∀ y, f + (m : Nat) ≤ y → y < A + (n : Nat) → ¬ P y) : cntN P A n = cntN P f m := by
  obtain ⟨p, hp⟩ : ∃ p : Nat, f = A + (p : Nat) := ⟨(f - A).toNat, by omega⟩
  obtain ⟨q, hq⟩ : ∃ q : Nat, n = p + (m + q) := ⟨n - p - m, by omega⟩
  subst hp hq
  rw [cnt_add, cnt_add, cnt_zero (fun k hk => hl _ (by omega) (by omega)), cnt_zero (a := A + (p : Nat) + (m : Nat)) (fun k hk => hr _ (by omega) (by omega))]
  omega
/-- how many times of a span are matched at a zone -/
noncomputable def countN (x : Exp.Ex) (z a b : Int) : Nat := cntN (fun s => x.Lm (s + 60 * z)) a (b - a + 1).toNat
theorem countN_loc {x : Exp.Ex} {z a b : Int} (h : loc0 z a ≤ loc1 z b) : countN x z a b = cntN x.Lm (loc0 z a) (loc1 z b - loc0 z a + 1).toNat := by
  have e : countN x z a b = cntN x.Lm (a + 60 * z) (b - a + 1).toNat := cnt_congr fun k _ => by rw [show a + (k : Nat) + 60 * z = a + 60 * z + (k : Nat) by omega]
  rw [e]
  unfold loc0 loc1 at *
  refine cnt_within (by omega) (by omega) (fun y y1 y2 y3 => ?_) (fun y y1 y2 y3 => ?_)
  · have := lm_in y3; omega
  · have := lm_in y3; omega
theorem countN_none {x : Exp.Ex} {z a b : Int} (h : loc1 z b < loc0 z a) : countN x z a b = 0 := by
  refine cnt_zero fun k hk hp => ?_
  have := lm_in hp
  unfold loc0 loc1 at h
  omega
/-- the count by days -/
theorem count_days {x : Exp.Ex} (hok : x.Ok) {f e : Nat} (h : f < e) (he : e ≤ 253402300800) : (cntN x.Lm (f : Int) (e - f) : Int) = x.secs * datesV x f (e - e % 86400 - 1) + (sinceN x e : Int) - (sinceN x f : Int) := by
  have s := cnt_span hok (Nat.le_of_lt h)
  by_cases c : (f : Int) ≤ (e : Int) - (e : Int) % 86400 - 1
  · rw [datesV_is (by omega) c (by omega)]
    have e1 : ((e : Int) - (e : Int) % 86400 - 1) / 86400 = (e : Int) / 86400 - 1 := by omega
    have e2 : (((e : Int) - (e : Int) % 86400 - 1) / 86400 - (f : Int) / 86400 + 1).toNat = e / 86400 - f / 86400 := by omega
    have e3 : (f : Int) / 86400 = ((f / 86400 : Nat) : Int) := by omega
    rw [e2, e3]
    have := congrArg (fun n : Nat => (n : Int)) s
    simp only [Int.natCast_add, Int.natCast_mul] at this
    omega
  · rw [datesV_past (by omega)]
    have e2 : e / 86400 - f / 86400 = 0 := by omega
    rw [e2] at s
    simp only [cntN, Nat.mul_zero, Nat.zero_add] at s
    omega
theorem since_le (x : Exp.Ex) (t : Nat) : sinceN x t ≤ 86400 := by
  unfold sinceN
  have := cnt_le x.ck 0 (t % 86400)
  split <;> omega
theorem secs_bd {x : Exp.Ex} (hok : x.Ok) : x.secs ≤ 86400 := by
  have := cnt_day hok
  have := cnt_le x.ck 0 86400
  omega
theorem p_since {w V : World} {x : Exp.Ex} (h : BC w x V) (hok : x.Ok) (t : Nat) (ht : t ≤ 253402300800) :
    Calls Tryd.prog 50 #[.agg #[.int .u64 x.a0, .int .u64 x.a1, .int .u64 x.a2, .int .u64 x.a3, .int .u64 x.a4, .int .u64 x.a5, .bool x.b3, .bool x.b5], .int .i64 t] V fun e V' => e = .returned (.int .i64 (sinceN x t : Nat)) ∧ BC w x V' :=
  (since_any x hok t ht V h.lay).mono fun _ _ ⟨h1, h2⟩ => ⟨h1, h.next h2⟩
theorem p_dates {w V : World} {x : Exp.Ex} (h : BC w x V) (hok : x.Ok) (f t : Int) (r : Int) (hr : datesV x f t = r) (bd : (0 ≤ f ∧ f ≤ 253402300799) ∧ -1 ≤ t ∧ t ≤ 253402300799) :
    Calls Tryd.prog 49 #[.agg #[.int .u64 x.a0, .int .u64 x.a1, .int .u64 x.a2, .int .u64 x.a3, .int .u64 x.a4, .int .u64 x.a5, .bool x.b3, .bool x.b5], .int .i64 f, .int .i64 t] V fun e V' => e = .returned (.int .i64 r) ∧ BC w x V' :=
  (dates_any x hok f t bd.1.1 bd.1.2 bd.2.1 bd.2.2 V h.lay).mono fun _ _ ⟨h1, h2⟩ => ⟨by rw [h1, hr], h.next h2⟩
theorem BC.drew {w V : World} {x : Exp.Ex} (h : BC w x V) : BC w x V.drew := h.next (Below.refl _ _).drew
set_option maxRecDepth 100000 in
set_option maxHeartbeats 8000000 in
theorem mcount_any (x : Exp.Ex) (hx : x.Bd) (z a b : Int) (w : World) (L : LayM w) :
    Calls Tryd.prog 30 #[.agg #[.int .u64 x.a0, .int .u64 x.a1, .int .u64 x.a2, .int .u64 x.a3, .int .u64 x.a4, .int .u64 x.a5, .bool x.b3, .bool x.b5], .int .i64 z, .int .i64 a, .int .i64 b] w fun e W' => e = .returned (.tuple #[.int .i64 (if errC x z [a, b] = 0 then countN x z a b else 0 : Nat), .int .i64 (errC x z [a, b])]) ∧ Below w.heap.size w W' := by
  have CK := Lib.hid (fun w0 R => mcheck_any x hx z (w.heap.size + 1) [a, b] (by simp) w0 R)
  have RW := Lib.hid (two_row x a b w)
  have LL := Lib.hid L
  by_cases h : errC x z [a, b] = 0
  · obtain ⟨hk, hz, ha, hb⟩ := errC_two h
    have hok := Exp.okB_iff.1 hk
    have LA := Lib.hid (fun w0 : World => local_any z a b (loc0 z a) (loc1 z b) w0 hz.1 hz.2 (by omega) (by omega) (by omega) (by omega) rfl rfl)
    rw [if_pos h]
    by_cases hp : loc1 z b < loc0 z a
    · have DO := Lib.hid (countN_none (x := x) hp)
      obtain ⟨f, hf⟩ : ∃ f, loc0 z a = f := ⟨_, rfl⟩
      obtain ⟨g, hg⟩ : ∃ g, loc1 z b = g := ⟨_, rfl⟩
      rw [hf, hg] at LA hp
      have t1 : decide (g < f) = true := by simpa using hp
      rw [h] at CK ⊢
      clear h hk hz ha hb hok hf hg hp L
      go_enter Tryd.func30, Tryd.ntmps30
      go_wp2_with (first
        | (go_at_call 33; refine (CK.out _ RW.out).mono ?_; rintro e V ⟨rfl, hb⟩; have Q := Lib.hid (BC.one LL.out hb); clear hb)
        | (go_at_call 34; refine (LA.out _).mono ?_; rintro e V' ⟨rfl, rfl⟩))
      go_ret2
      exact ⟨by rw [DO.out]; rfl, Q.out.be⟩
    · have DO := countN_loc (x := x) (z := z) (a := a) (b := b) (by omega)
      obtain ⟨f, hf⟩ : ∃ f : Nat, loc0 z a = (f : Int) := ⟨(loc0 z a).toNat, by unfold loc0; omega⟩
      obtain ⟨g, hg⟩ : ∃ g : Nat, loc1 z b = (g : Int) := ⟨(loc1 z b).toNat, by unfold loc0 at *; omega⟩
      have gm : g ≤ 253402300799 := by unfold loc1 at hg; omega
      rw [hf, hg] at LA hp DO
      obtain ⟨e, he⟩ : ∃ e : Nat, g + 1 = e := ⟨_, rfl⟩
      have fe : f < e := by omega
      have em : e ≤ 253402300800 := by omega
      have fm : f ≤ 253402300800 := by omega
      have DC := count_days hok fe em
      rw [show ((g : Int) - (f : Int) + 1).toNat = e - f by omega] at DO
      rw [← DO] at DC
      have b1 := since_le x e
      have b2 := since_le x f
      have b3 := secs_bd hok
      have bc : countN x z a b ≤ 253402300800 := by rw [DO]; have := cnt_le x.Lm f (e - f); omega
      obtain ⟨D, hD⟩ : ∃ D, datesV x f (e - e % 86400 - 1) = D := ⟨_, rfl⟩
      obtain ⟨S, hS⟩ : ∃ S, x.secs = S := ⟨_, rfl⟩
      obtain ⟨N, hN⟩ : ∃ N, countN x z a b = N := ⟨_, rfl⟩
      rw [hD, hS, hN] at DC
      rw [hS] at b3
      rw [hN] at bc ⊢
      obtain ⟨p, hP⟩ : ∃ p, (S : Int) * D = p := ⟨_, rfl⟩
      rw [hP] at DC
      have SE := Lib.hid (fun w0 : World => seconds_any x hx w0)
      rw [if_pos hk, hk, hS] at SE
      simp only [errOk, if_true] at SE
      obtain ⟨y, hy⟩ : ∃ y : Int, (e : Int) % 86400 = y := ⟨_, rfl⟩
      have yb : 0 ≤ y ∧ y < 86400 := by omega
      obtain ⟨mi, hmi⟩ : ∃ m : Int, (e : Int) - y = m := ⟨_, rfl⟩
      have ym : mi ≤ 253402300800 ∧ 0 ≤ mi := by omega
      rw [hy, hmi] at hD
      have t1 : decide ((g : Int) < (f : Int)) = false := by simp; omega
      have t1' : decide (g < f) = false := by simp; omega
      have v1 : IntKind.i64.wrap ((g : Int) + 1) = (e : Int) := by rw [IntKind.wrap_i64]; omega
      have v2 : ((e : Nat) : Int).tmod 86400 = y := by rw [Int.tmod_eq_emod_of_nonneg (by omega)]; exact hy
      have v4 : IntKind.i64.wrap ((e : Int) - y) = mi := by rw [IntKind.wrap_i64]; omega
      have v5 : IntKind.i64.wrap (mi - 1) = mi - 1 := by rw [IntKind.wrap_i64]; omega
      have v6 : IntKind.i64.wrap ((S : Int) * D) = p := by rw [hP, IntKind.wrap_i64]; omega
      have v7 : IntKind.i64.wrap (p + (sinceN x e : Int)) = p + (sinceN x e : Int) := by rw [IntKind.wrap_i64]; omega
      have v8 : IntKind.i64.wrap (p + (sinceN x e : Int) - (sinceN x f : Int)) = (N : Int) := by rw [IntKind.wrap_i64]; omega
      have DB : Hid ((0 ≤ (f : Int) ∧ (f : Int) ≤ 253402300799) ∧ -1 ≤ mi - 1 ∧ mi - 1 ≤ 253402300799) := Lib.hid ⟨⟨by omega, by omega⟩, by omega, by omega⟩
      have HD := Lib.hid hD
      have OK := Lib.hid hok
      have FM := Lib.hid fm
      have EM := Lib.hid em
      rw [h] at CK ⊢
      clear h hk hz ha hb hok hf hg hp L DO DC b1 b2 b3 bc hD hS hN hP hy hmi yb ym gm he fe em fm
      go_enter Tryd.func30, Tryd.ntmps30
      go_wp2_with (first
        | (go_at_call 33; refine (CK.out _ RW.out).mono ?_; rintro e V ⟨rfl, hb⟩; have Q := Lib.hid (BC.one LL.out hb); obtain ⟨y0, y1, y2, y3, y4, y5, y6, y7⟩ := Q.out.cells; clear hb)
        | (go_at_call 34; refine (LA.out _).mono ?_; rintro e V' ⟨rfl, rfl⟩)
        | (go_at_call 48; refine (SE.out _).mono ?_; rintro e V2 ⟨rfl, hb⟩; have Q := Lib.hid (Q.out.next hb); clear hb y0 y1 y2 y3 y4 y5 y6 y7; obtain ⟨y0, y1, y2, y3, y4, y5, y6, y7⟩ := Q.out.cells))
      go_region_held3 (fun w' => w'.cell? ⟨w.heap.size, 0, none⟩ = some (.int .u64 x.a0) ∧ w'.cell? ⟨w.heap.size, 1, none⟩ = some (.int .u64 x.a1) ∧ w'.cell? ⟨w.heap.size, 2, none⟩ = some (.int .u64 x.a2) ∧ w'.cell? ⟨w.heap.size, 3, none⟩ = some (.int .u64 x.a3) ∧ w'.cell? ⟨w.heap.size, 4, none⟩ = some (.int .u64 x.a4) ∧ w'.cell? ⟨w.heap.size, 5, none⟩ = some (.int .u64 x.a5) ∧ w'.cell? ⟨w.heap.size, 6, none⟩ = some (.bool x.b3) ∧ w'.cell? ⟨w.heap.size, 7, none⟩ = some (.bool x.b5)) (go_keep)
        (first
          | (go_at_call 49; refine (p_dates (by first | exact Q.out | exact Q.out.drew) OK.out _ _ _ HD.out DB.out).mono ?_; rintro e w20 ⟨rfl, q'⟩; have Q := Lib.hid q'; obtain ⟨y0, y1, y2, y3, y4, y5, y6, y7⟩ := q'.cells; clear q')
          | (go_at_call 50; refine (p_since (by first | exact Q.out | exact Q.out.drew) OK.out _ (by first | exact EM.out | exact FM.out)).mono ?_; rintro e w20 ⟨rfl, q'⟩; have Q := Lib.hid q'; obtain ⟨y0, y1, y2, y3, y4, y5, y6, y7⟩ := q'.cells; clear q'))
      go_wp2_with fail
      go_ret2
      exact ⟨rfl, Q.out.be⟩
  · rw [if_neg h]
    obtain ⟨E, hE⟩ : ∃ E, errC x z [a, b] = E := ⟨_, rfl⟩
    rw [hE] at h CK ⊢
    have t1 : (E != 0) = true := by rw [bne_iff_ne]; exact h
    clear h hE L
    go_enter Tryd.func30, Tryd.ntmps30
    go_wp2_with (first
      | (go_at_call 33; refine (CK.out _ RW.out).mono ?_; rintro e V ⟨rfl, hb⟩; have Q := Lib.hid (BC.one LL.out hb); clear hb))
    go_ret2
    exact ⟨rfl, Q.out.be⟩
end Go.Proofs.YtbehendogcghjaaDoor
