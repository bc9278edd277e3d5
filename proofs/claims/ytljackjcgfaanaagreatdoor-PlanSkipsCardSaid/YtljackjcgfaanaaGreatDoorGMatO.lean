/- Contracts of sinceMidnight and Count of package match. Plain facts of the first times of a span: how many they are, that they are matched, one behind the other, and what comes behind the last. Plain facts of the statements' examples. Contracts of the document's Same, of the statements' star and works: the examples of the chapter hold. -/
import Derived.Test.YtljackjcgfaanaaGreatDoorGMatK
import Derived.Deep.RegionHeld3
/- Contracts of sinceMidnight and Count of package match. -/
namespace Go.Proofs.YtljackjcgfaanaaGreatDoor
open Go.ChangeShapes Go.RowKit Go.Shelf

theorem cnt_q (S c : Nat) (hS : S < 2 ^ 64) (h : (Bit.mem S).length = c) (w : World) :
    Calls Tryz.prog 131 #[.int .u64 S] w fun e w' => e = .returned (.int .i64 c) ∧ w' = w :=
  (count_any S hS w).mono fun _ _ ⟨h1, h2⟩ => ⟨by rw [h1, h], h2.symm⟩
/-- the numbers of a set below one of them -/
theorem low_count (S k : Nat) (hk : k < 64) : (Bit.mem (S &&& (2 ^ k - 1))).length = (Bit.memTo S k).length := by
  have e : ∀ m, m ≤ 64 → (Bit.memTo (S &&& (2 ^ k - 1)) m).length = (Bit.memTo S (min m k)).length := by
    intro m
    induction m with
    | zero => intro _; rw [Nat.zero_min]; rfl
    | succ m ih =>
      intro hm
      rw [memTo_len_succ, ih (by omega), Nat.testBit_and, Nat.testBit_two_pow_sub_one]
      by_cases c : m < k
      · rw [Nat.min_eq_left (by omega), Nat.min_eq_left (by omega), memTo_len_succ]
        simp [c]
      · rw [Nat.min_eq_right (by omega), Nat.min_eq_right (by omega)]
        simp [c]
  have := e 64 (Nat.le_refl _)
  rw [Nat.min_eq_right (by omega)] at this
  exact this
/-- what a round over a part of the clock is told: the set, the number now, how many before -/
structure Part (S v c E E' n n' P Q R l M : Nat) (b : Bool) : Prop where
  hS : S < 2 ^ 64
  hc : (Bit.mem S).length = c
  hR : R < 2 ^ 64
  hl : (Bit.mem R).length = l
  hb : S.testBit v = b
  mn : min v 64 = v
  z1 : (c : Int) ≠ 0
  z2 : c ≠ 0
  c0 : ((c : Int) == 0) = false
  c1 : (c == 0) = false
  q1 : ((E : Nat) : Int).tdiv (c : Int) = (E' : Int)
  q2 : ((E : Nat) : Int) / (c : Int) = (E' : Int)
  q3 : IntKind.i64.wrap (E' : Int) = (E' : Int)
  p1 : (2 : Int) ^ v = (P : Int)
  p2 : IntKind.u64.wrap (P : Int) = (P : Int)
  p3 : IntKind.u64.wrap ((P : Int) - 1) = (Q : Int)
  p4 : bits .and .u64 (S : Int) (Q : Int) = (R : Int)
  m2 : IntKind.i64.wrap ((E' : Int) * (l : Int)) = (M : Int)
  m3 : IntKind.i64.wrap ((n : Int) + (M : Int)) = (n' : Int)
  m4 : IntKind.i64.wrap (l : Int) = (l : Int)
  m5 : IntKind.i64.wrap (M : Int) = (M : Int)
theorem part_ex {S v c E' n : Nat} (hS : S < 2 ^ 64) (hv : v < 60) (hc : (Bit.mem S).length = c) (c1 : 1 ≤ c) (he : E' ≤ 100000) (hn : n ≤ 1000000000) :
    ∃ P Q R, Part S v c (E' * c) E' n (n + E' * (Bit.memTo S v).length) P Q R (Bit.memTo S v).length (E' * (Bit.memTo S v).length) (S.testBit v) := by
  have hp := Bit.one_lt (v := v) (by omega)
  have hp0 := Nat.two_pow_pos v
  have hl := Bit.memTo_len S v
  have hm : E' * (Bit.memTo S v).length ≤ 100000 * 60 := Nat.mul_le_mul he (by omega)
  have cp : (0 : Int) < (c : Int) := by omega
  refine ⟨2 ^ v, 2 ^ v - 1, S &&& (2 ^ v - 1), hS, hc, Nat.lt_of_le_of_lt Nat.and_le_left hS, low_count S v (by omega), rfl, by omega, by omega, by omega, by rw [beq_eq_false_iff_ne]; omega, by rw [beq_eq_false_iff_ne]; omega, ?_, ?_, by rw [IntKind.wrap_i64]; omega, by simp, ?_, ?_, ?_, ?_, ?_, ?_, ?_⟩
  · rw [Int.natCast_mul, Int.mul_tdiv_cancel _ (by omega)]
  · rw [Int.natCast_mul, Int.mul_ediv_cancel _ (by omega)]
  · rw [IntKind.wrap_u64]; omega
  · rw [IntKind.wrap_u64]; omega
  · exact u64_and_nat S _ hS (by omega)
  · rw [← Int.natCast_mul, IntKind.wrap_i64]; omega
  · rw [IntKind.wrap_i64]; omega
  · rw [IntKind.wrap_i64]; omega
  · rw [IntKind.wrap_i64]; omega
theorem part_at0 (a b c d e f : Int) (W : World) : (Instr.index 157 (.agg #[.int .u64 a, .int .i64 b, .int .u64 c, .int .i64 d, .int .u64 e, .int .i64 f]) (.int .i64 0)).run Tryz.prog W = .ok (.agg #[.int .u64 a, .int .i64 b]) W := by kernel_rfl
theorem part_at1 (a b c d e f : Int) (W : World) : (Instr.index 157 (.agg #[.int .u64 a, .int .i64 b, .int .u64 c, .int .i64 d, .int .u64 e, .int .i64 f]) (.int .i64 1)).run Tryz.prog W = .ok (.agg #[.int .u64 c, .int .i64 d]) W := by kernel_rfl
theorem part_at2 (a b c d e f : Int) (W : World) : (Instr.index 157 (.agg #[.int .u64 a, .int .i64 b, .int .u64 c, .int .i64 d, .int .u64 e, .int .i64 f]) (.int .i64 2)).run Tryz.prog W = .ok (.agg #[.int .u64 e, .int .i64 f]) W := by kernel_rfl
set_option maxRecDepth 100000 in
set_option maxHeartbeats 8000000 in
theorem since_any (x : Exp.Ex) (hok : x.Ok) (t : Nat) (t1 : t ≤ 253402300800) (w : World) (L : LayM w) :
    Calls Tryz.prog 111 #[.agg #[.int .u64 x.a0, .int .u64 x.a1, .int .u64 x.a2, .int .u64 x.a3, .int .u64 x.a4, .int .u64 x.a5, .bool x.b3, .bool x.b5], .int .i64 t] w fun e W' => e = .returned (.int .i64 (sinceN x t : Nat)) ∧ Below w.heap.size w W' := by
  have hx := bd_of hok
  have OD := Lib.hid (fun w0 L0 => onDate_any x hok t (by omega) (by omega) w0 L0)
  have LL := Lib.hid (L.alloc (.cells #[.int .u64 x.a0, .int .u64 x.a1, .int .u64 x.a2, .int .u64 x.a3, .int .u64 x.a4, .int .u64 x.a5, .bool x.b3, .bool x.b5] 24))
  have SE := Lib.hid (fun w0 : World => seconds_any x hx w0)
  have R0 := Lib.hid (Row.new w (exL x) 24)
  have HB := Lib.hid ((Below.refl _ w).alloc (Nat.le_refl _) (.cells #[.int .u64 x.a0, .int .u64 x.a1, .int .u64 x.a2, .int .u64 x.a3, .int .u64 x.a4, .int .u64 x.a5, .bool x.b3, .bool x.b5] 24))
  rw [if_pos (Exp.okB_iff.2 hok), Exp.okB_iff.2 hok] at SE
  simp only [errOk, if_true] at SE
  cases hd : x.onB ((t : Int) / 86400) with
  | false =>
    have E : Hid (sinceN x t = 0) := Lib.hid (by
      unfold sinceN
      rw [if_neg]
      have := onB_no.1 hd
      rwa [show ((t / 86400 : Nat) : Int) = (t : Int) / 86400 by omega])
    rw [hd] at OD
    clear hd hok hx L t1
    go_enter Tryz.func111, Tryz.ntmps111
    go_wp2_with (go_at_call 132; refine (OD.out _ LL.out).mono ?_; rintro e V ⟨rfl, hb⟩; have HV := Lib.hid (HB.out.trans (hb.mono HB.out.size)); clear hb)
    go_ret
    exact ⟨by rw [E.out]; rfl, HV.out⟩
  | true =>
    have E : Hid (sinceN x t = cntN x.ck 0 (t % 86400)) := Lib.hid (by
      unfold sinceN
      rw [if_pos]
      have := onB_iff.1 hd
      rwa [show ((t / 86400 : Nat) : Int) = (t : Int) / 86400 by omega])
    rw [hd] at OD
    obtain ⟨r, hr⟩ : ∃ r, t % 86400 = r := ⟨_, rfl⟩
    have r1 : r < 86400 := by omega
    have CL := Lib.hid (fun w0 : World => clock_any r w0 r1)
    have tr : ((t : Nat) : Int).tmod 86400 = (r : Int) := by rw [Int.tmod_eq_emod_of_nonneg (by omega)]; omega
    have tr' : ((t : Nat) : Int) % 86400 = (r : Int) := by omega
    rw [hr] at E
    obtain ⟨h, hh⟩ : ∃ h, r / 3600 = h := ⟨_, rfl⟩
    obtain ⟨i, hi⟩ : ∃ i, r % 3600 / 60 = i := ⟨_, rfl⟩
    obtain ⟨s, hs⟩ : ∃ s, r % 60 = s := ⟨_, rfl⟩
    rw [hh, hi, hs] at CL
    have hrr : r = 3600 * h + 60 * i + s := by omega
    have hb : h < 24 ∧ i < 60 ∧ s < 60 := by omega
    have CB := cnt_before hok hb.1 hb.2.1 hb.2.2
    rw [← hrr] at CB
    rw [CB] at E
    obtain ⟨n0, h0⟩ : ∃ n, (Bit.mem x.a0).length = n := ⟨_, rfl⟩
    obtain ⟨n1, h1⟩ : ∃ n, (Bit.mem x.a1).length = n := ⟨_, rfl⟩
    obtain ⟨n2, h2⟩ : ∃ n, (Bit.mem x.a2).length = n := ⟨_, rfl⟩
    have hp : ∀ S, S ≠ 0 → S < 2 ^ 64 → 1 ≤ (Bit.mem S).length := fun S hz hS => by
      obtain ⟨v, hv⟩ := bit_some hz
      exact List.length_pos_iff.2 (List.ne_nil_of_mem (Bit.mem_iff.2 ⟨set_hi hS hv, hv⟩))
    have p0 : 1 ≤ n0 := by rw [← h0]; exact hp _ (hok.ne 0 (by decide)) (hx 0 (by decide))
    have p1 : 1 ≤ n1 := by rw [← h1]; exact hp _ (hok.ne 1 (by decide)) (hx 1 (by decide))
    have p2 : 1 ≤ n2 := by rw [← h2]; exact hp _ (hok.ne 2 (by decide)) (hx 2 (by decide))
    have b0 : n0 ≤ 60 := by rw [← h0, ← Bit.memTo_all, memTo_big (fun v hv => Nat.lt_succ_of_le (bit0 hok hv)) 64 (by omega)]; exact Bit.memTo_len _ _
    have b1 : n1 ≤ 60 := by rw [← h1, ← Bit.memTo_all, memTo_big (fun v hv => Nat.lt_succ_of_le (bit1 hok hv)) 64 (by omega)]; exact Bit.memTo_len _ _
    have m01 : n0 * n1 ≤ 60 * 60 := Nat.mul_le_mul b0 b1
    have hsec : x.secs = n0 * n1 * n2 := by unfold Exp.Ex.secs; rw [h0, h1, h2]
    rw [hsec] at SE
    rw [h0, h1] at E
    obtain ⟨l2, hl2⟩ : ∃ l, (Bit.memTo x.a2 h).length = l := ⟨_, rfl⟩
    obtain ⟨l1, hl1⟩ : ∃ l, (Bit.memTo x.a1 i).length = l := ⟨_, rfl⟩
    obtain ⟨l0, hl0⟩ : ∃ l, (Bit.memTo x.a0 s).length = l := ⟨_, rfl⟩
    have k2 : l2 ≤ 24 := by rw [← hl2]; have := Bit.memTo_len x.a2 h; omega
    have k1 : l1 ≤ 60 := by rw [← hl1]; have := Bit.memTo_len x.a1 i; omega
    have q2 : n0 * n1 * l2 ≤ 3600 * 24 := Nat.mul_le_mul m01 k2
    have q1 : n0 * l1 ≤ 60 * 60 := Nat.mul_le_mul b0 k1
    obtain ⟨P2, Q2, R2, PA2⟩ := part_ex (E' := n0 * n1) (n := 0) (hx 2 (by decide)) (show h < 60 by omega) h2 p2 (by omega) (by omega)
    obtain ⟨P1, Q1, R1, PA1⟩ := part_ex (E' := n0) (n := n0 * n1 * l2) (hx 1 (by decide)) hb.2.1 h1 p1 (by omega) (by omega)
    obtain ⟨P0, Q0, R3, PA0⟩ := part_ex (E' := 1) (n := n0 * n1 * l2 + n0 * l1) (hx 0 (by decide)) hb.2.2 h0 p0 (by omega) (by omega)
    simp only [Exp.Ex.at] at PA2 PA1 PA0
    rw [hl2] at PA2 E
    rw [hl1] at PA1 E
    rw [hl0] at PA0 E
    rw [Nat.zero_add] at PA2
    rw [Nat.one_mul, Nat.one_mul] at PA0
    obtain ⟨M2, hM2⟩ : ∃ M, n0 * n1 * l2 = M := ⟨_, rfl⟩
    obtain ⟨M1, hM1⟩ : ∃ M, n0 * l1 = M := ⟨_, rfl⟩
    rw [hM2] at PA2 PA1 PA0 E
    rw [hM1] at PA1 PA0 E
    have H2 := Lib.hid PA2; have H1 := Lib.hid PA1; have H0 := Lib.hid PA0
    obtain ⟨c2, hc2⟩ : ∃ b, x.a2.testBit h = b := ⟨_, rfl⟩
    obtain ⟨c1, hc1⟩ : ∃ b, x.a1.testBit i = b := ⟨_, rfl⟩
    obtain ⟨c0, hc0⟩ : ∃ b, x.a0.testBit s = b := ⟨_, rfl⟩
    rw [hc2] at H2 E
    rw [hc1] at H1 E
    rw [hc0] at H0
    clear PA2 PA1 PA0 hc2 hc1 hc0 hM2 hM1 q1 q2 k1 k2 hl0 hl1 hl2 hsec m01 b0 b1 p0 p1 p2 hp h0 h1 h2 CB hrr hb hh hi hs r1 hr hd hok hx L t1
    have es := E.out
    clear E
    obtain ⟨e0, he0⟩ : ∃ e, n0 * n1 * n2 = e := ⟨_, rfl⟩
    obtain ⟨e1, he1⟩ : ∃ e, n0 * n1 = e := ⟨_, rfl⟩
    rw [he0] at SE H2
    rw [he1] at H2 H1
    obtain ⟨m2, hm2⟩ : ∃ m, M2 + M1 = m := ⟨_, rfl⟩
    rw [hm2] at H1 H0
    obtain ⟨m3, hm3⟩ : ∃ m, m2 + l0 = m := ⟨_, rfl⟩
    rw [hm3] at H0
    have ES : Hid (sinceN x t = if c2 = true then (if c1 = true then m3 else m2) else M2) := Lib.hid (by rw [es]; cases c2 <;> cases c1 <;> simp <;> omega)
    clear es he0 he1 hm2 hm3
    go_enter Tryz.func111, Tryz.ntmps111
    go_wp2_with (first
      | (go_at_call 132; refine (OD.out _ LL.out).mono ?_; rintro e V ⟨rfl, hb⟩; have HV := Lib.hid (HB.out.trans (hb.mono HB.out.size)); have RV := Lib.hid (R0.out.below hb); obtain ⟨y0, y1, y2, y3, y4, y5, y6, y7⟩ := row_cells RV.out; clear hb)
      | (go_at_call 133; refine (CL.out _).mono ?_; rintro e V' ⟨rfl, rfl⟩)
      | (go_at_call 109; refine (SE.out _).mono ?_; rintro e V2 ⟨rfl, hb⟩; have HV2 := Lib.hid (HV.out.trans (hb.mono HV.out.size)); obtain ⟨z0, z1, z2, z3, z4, z5, z6, z7⟩ := row_cells (RV.out.below hb); clear hb y0 y1 y2 y3 y4 y5 y6 y7))
    go_loopw [8, 10, 42] (fun ev nv iv wr => Hid (Below w.heap.size w wr) ∧ ((iv = .int .i64 0 ∧ ev = .int .i64 e0 ∧ nv = .int .i64 0) ∨ (iv = .int .i64 1 ∧ ev = .int .i64 e1 ∧ nv = .int .i64 M2 ∧ Hid (c2 = true)) ∨ (iv = .int .i64 2 ∧ ev = .int .i64 n0 ∧ nv = .int .i64 m2 ∧ Hid (c2 = true ∧ c1 = true)) ∨ (iv = .int .i64 3 ∧ ev = .int .i64 1 ∧ nv = .int .i64 m3 ∧ Hid (c2 = true ∧ c1 = true)))) (fun _ _ iv _ => 3 - (intOf iv).toNat)
    case atStart => exact ⟨HV2, .inl ⟨rfl, rfl, rfl⟩⟩
    case round =>
      obtain ⟨hbw, hrel⟩ := hrel
      have HBW := Lib.hid (fun o k => below_drewN' (hbw.out.alloc hbw.out.size o) k)
      rcases hrel with ⟨rfl, rfl, rfl⟩ | ⟨rfl, rfl, rfl, hc⟩ | ⟨rfl, rfl, rfl, hc⟩ | ⟨rfl, rfl, rfl, hc⟩
      · obtain ⟨hS, hcc, hR, hl, hb, gmn, gz1, gz2, g1, g2, g3, g4, g5, g6, g7, g8, g9, g10, g11, g12⟩ := H2.out
        have ix := fun (W : World) => part_at0 x.a2 h x.a1 i x.a0 s W
        cases c2 with
        | true =>
          go_wp2_with (first | (go_at_call 131; refine (cnt_q _ _ (by assumption) (by assumption) _).mono ?_; rintro e V' ⟨rfl, rfl⟩))
          go_quiet (first | (go_at_call 131; exact Calls.quiet_of_same (cnt_q _ _ (by assumption) (by assumption) _)))
          go_wp2_with (first | (go_at_call 134; refine (has_nat_any _ _ _ hS hb _).mono ?_; rintro e V' ⟨rfl, rfl⟩))
          go_roundw
          case rel => exact ⟨Lib.hid (HBW.out _ _), .inr (.inl ⟨rfl, rfl, rfl, Lib.hid (by first | rfl | trivial)⟩)⟩
          case measure => simp [intOf]
        | false =>
          go_wp2_with (first | (go_at_call 131; refine (cnt_q _ _ (by assumption) (by assumption) _).mono ?_; rintro e V' ⟨rfl, rfl⟩))
          go_quiet (first | (go_at_call 131; exact Calls.quiet_of_same (cnt_q _ _ (by assumption) (by assumption) _)))
          go_wp2_with (first | (go_at_call 134; refine (has_nat_any _ _ _ hS hb _).mono ?_; rintro e V' ⟨rfl, rfl⟩))
          go_ret
          exact ⟨by rw [ES.out]; rfl, HBW.out _ _⟩
      · obtain ⟨hS, hcc, hR, hl, hb, gmn, gz1, gz2, g1, g2, g3, g4, g5, g6, g7, g8, g9, g10, g11, g12⟩ := H1.out
        have ix := fun (W : World) => part_at1 x.a2 h x.a1 i x.a0 s W
        have HC2 := hc
        clear hc
        cases c1 with
        | true =>
          go_wp2_with (first | (go_at_call 131; refine (cnt_q _ _ (by assumption) (by assumption) _).mono ?_; rintro e V' ⟨rfl, rfl⟩))
          go_quiet (first | (go_at_call 131; exact Calls.quiet_of_same (cnt_q _ _ (by assumption) (by assumption) _)))
          go_wp2_with (first | (go_at_call 134; refine (has_nat_any _ _ _ hS hb _).mono ?_; rintro e V' ⟨rfl, rfl⟩))
          go_roundw
          case rel => exact ⟨Lib.hid (HBW.out _ _), .inr (.inr (.inl ⟨rfl, rfl, rfl, Lib.hid ⟨HC2.out, by first | rfl | trivial⟩⟩))⟩
          case measure => simp [intOf]
        | false =>
          go_wp2_with (first | (go_at_call 131; refine (cnt_q _ _ (by assumption) (by assumption) _).mono ?_; rintro e V' ⟨rfl, rfl⟩))
          go_quiet (first | (go_at_call 131; exact Calls.quiet_of_same (cnt_q _ _ (by assumption) (by assumption) _)))
          go_wp2_with (first | (go_at_call 134; refine (has_nat_any _ _ _ hS hb _).mono ?_; rintro e V' ⟨rfl, rfl⟩))
          go_ret
          exact ⟨by rw [ES.out, HC2.out]; rfl, HBW.out _ _⟩
      · obtain ⟨hS, hcc, hR, hl, hb, gmn, gz1, gz2, g1, g2, g3, g4, g5, g6, g7, g8, g9, g10, g11, g12⟩ := H0.out
        have ix := fun (W : World) => part_at2 x.a2 h x.a1 i x.a0 s W
        have HC2 := hc
        clear hc
        have ES' : Hid (sinceN x t = m3) := Lib.hid (by rw [ES.out, HC2.out.1, HC2.out.2]; rfl)
        cases c0 with
        | true =>
          go_wp2_with (first | (go_at_call 131; refine (cnt_q _ _ (by assumption) (by assumption) _).mono ?_; rintro e V' ⟨rfl, rfl⟩))
          go_quiet (first | (go_at_call 131; exact Calls.quiet_of_same (cnt_q _ _ (by assumption) (by assumption) _)))
          go_wp2_with (first | (go_at_call 134; refine (has_nat_any _ _ _ hS hb _).mono ?_; rintro e V' ⟨rfl, rfl⟩))
          go_roundw
          case rel => exact ⟨Lib.hid (HBW.out _ _), .inr (.inr (.inr ⟨rfl, rfl, rfl, HC2⟩))⟩
          case measure => simp [intOf]
        | false =>
          go_wp2_with (first | (go_at_call 131; refine (cnt_q _ _ (by assumption) (by assumption) _).mono ?_; rintro e V' ⟨rfl, rfl⟩))
          go_quiet (first | (go_at_call 131; exact Calls.quiet_of_same (cnt_q _ _ (by assumption) (by assumption) _)))
          go_wp2_with (first | (go_at_call 134; refine (has_nat_any _ _ _ hS hb _).mono ?_; rintro e V' ⟨rfl, rfl⟩))
          go_ret
          exact ⟨by rw [ES'.out]; rfl, HBW.out _ _⟩
      · have HC2 := hc
        clear hc
        have ES' : Hid (sinceN x t = m3) := Lib.hid (by rw [ES.out, HC2.out.1, HC2.out.2]; rfl)
        go_wp2_with fail
        go_ret
        exact ⟨by rw [ES'.out]; rfl, hbw.out⟩

theorem cnt_within {P : Int → Prop} {A f : Int} {n m : Nat} (h0 : A ≤ f) (h1 : f + (m : Nat) ≤ A + (n : Nat)) (hl : ∀ y, A ≤ y → y < f → ¬ P y) (hr : ∀ y, f + (m : Nat) ≤ y → y < A + (n : Nat) → ¬ P y) : cntN P A n = cntN P f m := by
  obtain ⟨p, hp⟩ : ∃ p : Nat, f = A + (p : Nat) := ⟨(f - A).toNat, by omega⟩
  obtain ⟨q, hq⟩ : ∃ q : Nat, n = p + (m + q) := ⟨n - p - m, by omega⟩
  subst hp hq
  rw [cnt_add, cnt_add, cnt_zero (fun k hk => hl _ (by omega) (by omega)), cnt_zero (a := A + (p : Nat) + (m : Nat)) (fun k hk => hr _ (by omega) (by omega))]
  omega
/-- how many times of a span are matched at a zone -/
noncomputable def countN (x : Exp.Ex) (z a b : Int) : Nat := cntN (fun s => x.Lm (s + 60 * z)) a (b - a + 1).toNat
theorem countN_loc {x : Exp.Ex} {z a b : Int} (h : loc0 z a ≤ loc1 z b) : countN x z a b = cntN x.Lm (loc0 z a) (loc1 z b - loc0 z a + 1).toNat := by
  have e : countN x z a b = cntN x.Lm (a + 60 * z) (b - a + 1).toNat := cnt_congr fun k _ => by rw [show a + (k : Nat) + 60 * z = a + 60 * z + (k : Nat) by omega]
  rw [e]
  unfold loc0 loc1 at *
  refine cnt_within (by omega) (by omega) (fun y y1 y2 y3 => ?_) (fun y y1 y2 y3 => ?_)
  · have := lm_in y3; omega
  · have := lm_in y3; omega
theorem countN_none {x : Exp.Ex} {z a b : Int} (h : loc1 z b < loc0 z a) : countN x z a b = 0 := by
  refine cnt_zero fun k hk hp => ?_
  have := lm_in hp
  unfold loc0 loc1 at h
  omega
/-- the count by days -/
theorem count_days {x : Exp.Ex} (hok : x.Ok) {f e : Nat} (h : f < e) (he : e ≤ 253402300800) : (cntN x.Lm (f : Int) (e - f) : Int) = x.secs * datesV x f (e - e % 86400 - 1) + (sinceN x e : Int) - (sinceN x f : Int) := by
  have s := cnt_span hok (Nat.le_of_lt h)
  by_cases c : (f : Int) ≤ (e : Int) - (e : Int) % 86400 - 1
  · rw [datesV_is (by omega) c (by omega)]
    have e1 : ((e : Int) - (e : Int) % 86400 - 1) / 86400 = (e : Int) / 86400 - 1 := by omega
    have e2 : (((e : Int) - (e : Int) % 86400 - 1) / 86400 - (f : Int) / 86400 + 1).toNat = e / 86400 - f / 86400 := by omega
    have e3 : (f : Int) / 86400 = ((f / 86400 : Nat) : Int) := by omega
    rw [e2, e3]
    have := congrArg (fun n : Nat => (n : Int)) s
    simp only [Int.natCast_add, Int.natCast_mul] at this
    omega
  · rw [datesV_past (by omega)]
    have e2 : e / 86400 - f / 86400 = 0 := by omega
    rw [e2] at s
    simp only [cntN, Nat.mul_zero, Nat.zero_add] at s
    omega
theorem since_le (x : Exp.Ex) (t : Nat) : sinceN x t ≤ 86400 := by
  unfold sinceN
  have := cnt_le x.ck 0 (t % 86400)
  split <;> omega
theorem secs_bd {x : Exp.Ex} (hok : x.Ok) : x.secs ≤ 86400 := by
  have := cnt_day hok
  have := cnt_le x.ck 0 86400
  omega
theorem p_since {w V : World} {x : Exp.Ex} (h : BC w x V) (hok : x.Ok) (t : Nat) (ht : t ≤ 253402300800) :
    Calls Tryz.prog 111 #[.agg #[.int .u64 x.a0, .int .u64 x.a1, .int .u64 x.a2, .int .u64 x.a3, .int .u64 x.a4, .int .u64 x.a5, .bool x.b3, .bool x.b5], .int .i64 t] V fun e V' => e = .returned (.int .i64 (sinceN x t : Nat)) ∧ BC w x V' :=
  (since_any x hok t ht V h.lay).mono fun _ _ ⟨h1, h2⟩ => ⟨h1, h.next h2⟩
theorem p_dates {w V : World} {x : Exp.Ex} (h : BC w x V) (hok : x.Ok) (f t : Int) (r : Int) (hr : datesV x f t = r) (bd : (0 ≤ f ∧ f ≤ 253402300799) ∧ -1 ≤ t ∧ t ≤ 253402300799) :
    Calls Tryz.prog 110 #[.agg #[.int .u64 x.a0, .int .u64 x.a1, .int .u64 x.a2, .int .u64 x.a3, .int .u64 x.a4, .int .u64 x.a5, .bool x.b3, .bool x.b5], .int .i64 f, .int .i64 t] V fun e V' => e = .returned (.int .i64 r) ∧ BC w x V' :=
  (dates_any x hok f t bd.1.1 bd.1.2 bd.2.1 bd.2.2 V h.lay).mono fun _ _ ⟨h1, h2⟩ => ⟨by rw [h1, hr], h.next h2⟩
theorem BC.drew {w V : World} {x : Exp.Ex} (h : BC w x V) : BC w x V.drew := h.next (Below.refl _ _).drew
set_option maxRecDepth 100000 in
set_option maxHeartbeats 8000000 in
theorem mcount_any (x : Exp.Ex) (hx : x.Bd) (z a b : Int) (w : World) (L : LayM w) :
    Calls Tryz.prog 77 #[.agg #[.int .u64 x.a0, .int .u64 x.a1, .int .u64 x.a2, .int .u64 x.a3, .int .u64 x.a4, .int .u64 x.a5, .bool x.b3, .bool x.b5], .int .i64 z, .int .i64 a, .int .i64 b] w fun e W' => e = .returned (.tuple #[.int .i64 (if errC x z [a, b] = 0 then countN x z a b else 0 : Nat), .int .i64 (errC x z [a, b])]) ∧ Below w.heap.size w W' := by
  have CK := Lib.hid (fun w0 R => mcheck_any x hx z (w.heap.size + 1) [a, b] (by simp) w0 R)
  have RW := Lib.hid (two_row x a b w)
  have LL := Lib.hid L
  by_cases h : errC x z [a, b] = 0
  · obtain ⟨hk, hz, ha, hb⟩ := errC_two h
    have hok := Exp.okB_iff.1 hk
    have LA := Lib.hid (fun w0 : World => local_any z a b (loc0 z a) (loc1 z b) w0 hz.1 hz.2 (by omega) (by omega) (by omega) (by omega) rfl rfl)
    rw [if_pos h]
    by_cases hp : loc1 z b < loc0 z a
    · have DO := Lib.hid (countN_none (x := x) hp)
      obtain ⟨f, hf⟩ : ∃ f, loc0 z a = f := ⟨_, rfl⟩
      obtain ⟨g, hg⟩ : ∃ g, loc1 z b = g := ⟨_, rfl⟩
      rw [hf, hg] at LA hp
      have t1 : decide (g < f) = true := by simpa using hp
      rw [h] at CK ⊢
      clear h hk hz ha hb hok hf hg hp L
      go_enter Tryz.func77, Tryz.ntmps77
      go_wp2_with (first
        | (go_at_call 105; refine (CK.out _ RW.out).mono ?_; rintro e V ⟨rfl, hb⟩; have Q := Lib.hid (BC.one LL.out hb); clear hb)
        | (go_at_call 106; refine (LA.out _).mono ?_; rintro e V' ⟨rfl, rfl⟩))
      go_ret2
      exact ⟨by rw [DO.out]; rfl, Q.out.be⟩
    · have DO := countN_loc (x := x) (z := z) (a := a) (b := b) (by omega)
      obtain ⟨f, hf⟩ : ∃ f : Nat, loc0 z a = (f : Int) := ⟨(loc0 z a).toNat, by unfold loc0; omega⟩
      obtain ⟨g, hg⟩ : ∃ g : Nat, loc1 z b = (g : Int) := ⟨(loc1 z b).toNat, by unfold loc0 at *; omega⟩
      have gm : g ≤ 253402300799 := by unfold loc1 at hg; omega
      rw [hf, hg] at LA hp DO
      obtain ⟨e, he⟩ : ∃ e : Nat, g + 1 = e := ⟨_, rfl⟩
      have fe : f < e := by omega
      have em : e ≤ 253402300800 := by omega
      have fm : f ≤ 253402300800 := by omega
      have DC := count_days hok fe em
      rw [show ((g : Int) - (f : Int) + 1).toNat = e - f by omega] at DO
      rw [← DO] at DC
      have b1 := since_le x e
      have b2 := since_le x f
      have b3 := secs_bd hok
      have bc : countN x z a b ≤ 253402300800 := by rw [DO]; have := cnt_le x.Lm f (e - f); omega
      obtain ⟨D, hD⟩ : ∃ D, datesV x f (e - e % 86400 - 1) = D := ⟨_, rfl⟩
      obtain ⟨S, hS⟩ : ∃ S, x.secs = S := ⟨_, rfl⟩
      obtain ⟨N, hN⟩ : ∃ N, countN x z a b = N := ⟨_, rfl⟩
      rw [hD, hS, hN] at DC
      rw [hS] at b3
      rw [hN] at bc ⊢
      obtain ⟨p, hP⟩ : ∃ p, (S : Int) * D = p := ⟨_, rfl⟩
      rw [hP] at DC
      have SE := Lib.hid (fun w0 : World => seconds_any x hx w0)
      rw [if_pos hk, hk, hS] at SE
      simp only [errOk, if_true] at SE
      obtain ⟨y, hy⟩ : ∃ y : Int, (e : Int) % 86400 = y := ⟨_, rfl⟩
      have yb : 0 ≤ y ∧ y < 86400 := by omega
      obtain ⟨mi, hmi⟩ : ∃ m : Int, (e : Int) - y = m := ⟨_, rfl⟩
      have ym : mi ≤ 253402300800 ∧ 0 ≤ mi := by omega
      rw [hy, hmi] at hD
      have t1 : decide ((g : Int) < (f : Int)) = false := by simp; omega
      have t1' : decide (g < f) = false := by simp; omega
      have v1 : IntKind.i64.wrap ((g : Int) + 1) = (e : Int) := by rw [IntKind.wrap_i64]; omega
      have v2 : ((e : Nat) : Int).tmod 86400 = y := by rw [Int.tmod_eq_emod_of_nonneg (by omega)]; exact hy
      have v4 : IntKind.i64.wrap ((e : Int) - y) = mi := by rw [IntKind.wrap_i64]; omega
      have v5 : IntKind.i64.wrap (mi - 1) = mi - 1 := by rw [IntKind.wrap_i64]; omega
      have v6 : IntKind.i64.wrap ((S : Int) * D) = p := by rw [hP, IntKind.wrap_i64]; omega
      have v7 : IntKind.i64.wrap (p + (sinceN x e : Int)) = p + (sinceN x e : Int) := by rw [IntKind.wrap_i64]; omega
      have v8 : IntKind.i64.wrap (p + (sinceN x e : Int) - (sinceN x f : Int)) = (N : Int) := by rw [IntKind.wrap_i64]; omega
      have DB : Hid ((0 ≤ (f : Int) ∧ (f : Int) ≤ 253402300799) ∧ -1 ≤ mi - 1 ∧ mi - 1 ≤ 253402300799) := Lib.hid ⟨⟨by omega, by omega⟩, by omega, by omega⟩
      have HD := Lib.hid hD
      have OK := Lib.hid hok
      have FM := Lib.hid fm
      have EM := Lib.hid em
      rw [h] at CK ⊢
      clear h hk hz ha hb hok hf hg hp L DO DC b1 b2 b3 bc hD hS hN hP hy hmi yb ym gm he fe em fm
      go_enter Tryz.func77, Tryz.ntmps77
      go_wp2_with (first
        | (go_at_call 105; refine (CK.out _ RW.out).mono ?_; rintro e V ⟨rfl, hb⟩; have Q := Lib.hid (BC.one LL.out hb); obtain ⟨y0, y1, y2, y3, y4, y5, y6, y7⟩ := Q.out.cells; clear hb)
        | (go_at_call 106; refine (LA.out _).mono ?_; rintro e V' ⟨rfl, rfl⟩)
        | (go_at_call 109; refine (SE.out _).mono ?_; rintro e V2 ⟨rfl, hb⟩; have Q := Lib.hid (Q.out.next hb); clear hb y0 y1 y2 y3 y4 y5 y6 y7; obtain ⟨y0, y1, y2, y3, y4, y5, y6, y7⟩ := Q.out.cells))
      go_region_held3 (fun w' => w'.cell? ⟨w.heap.size, 0, none⟩ = some (.int .u64 x.a0) ∧ w'.cell? ⟨w.heap.size, 1, none⟩ = some (.int .u64 x.a1) ∧ w'.cell? ⟨w.heap.size, 2, none⟩ = some (.int .u64 x.a2) ∧ w'.cell? ⟨w.heap.size, 3, none⟩ = some (.int .u64 x.a3) ∧ w'.cell? ⟨w.heap.size, 4, none⟩ = some (.int .u64 x.a4) ∧ w'.cell? ⟨w.heap.size, 5, none⟩ = some (.int .u64 x.a5) ∧ w'.cell? ⟨w.heap.size, 6, none⟩ = some (.bool x.b3) ∧ w'.cell? ⟨w.heap.size, 7, none⟩ = some (.bool x.b5)) (go_keep)
        (first
          | (go_at_call 110; refine (p_dates (by first | exact Q.out | exact Q.out.drew) OK.out _ _ _ HD.out DB.out).mono ?_; rintro e w20 ⟨rfl, q'⟩; have Q := Lib.hid q'; obtain ⟨y0, y1, y2, y3, y4, y5, y6, y7⟩ := q'.cells; clear q')
          | (go_at_call 111; refine (p_since (by first | exact Q.out | exact Q.out.drew) OK.out _ (by first | exact EM.out | exact FM.out)).mono ?_; rintro e w20 ⟨rfl, q'⟩; have Q := Lib.hid q'; obtain ⟨y0, y1, y2, y3, y4, y5, y6, y7⟩ := q'.cells; clear q'))
      go_wp2_with fail
      go_ret2
      exact ⟨rfl, Q.out.be⟩
  · rw [if_neg h]
    obtain ⟨E, hE⟩ : ∃ E, errC x z [a, b] = E := ⟨_, rfl⟩
    rw [hE] at h CK ⊢
    have t1 : (E != 0) = true := by rw [bne_iff_ne]; exact h
    clear h hE L
    go_enter Tryz.func77, Tryz.ntmps77
    go_wp2_with (first
      | (go_at_call 105; refine (CK.out _ RW.out).mono ?_; rintro e V ⟨rfl, hb⟩; have Q := Lib.hid (BC.one LL.out hb); clear hb))
    go_ret2
    exact ⟨rfl, Q.out.be⟩
end Go.Proofs.YtljackjcgfaanaaGreatDoor
/- Plain facts of the first times of a span: how many they are, that they are matched, one behind the other, and what comes behind the last. -/
namespace Go.Proofs.YtljackjcgfaanaaGreatDoor
open Go.ChangeShapes Go.RowKit

theorem cnt_split (P : Int → Prop) {a t b : Int} (h0 : a ≤ t) (h1 : t ≤ b) (hp : P t) (hn : ∀ y, a ≤ y → y < t → ¬ P y) : cntN P a (b - a + 1).toNat = 1 + cntN P (t + 1) (b - (t + 1) + 1).toNat := by
  obtain ⟨p, rfl⟩ : ∃ p : Nat, t = a + (p : Nat) := ⟨(t - a).toNat, by omega⟩
  have e : (b - a + 1).toNat = (p + 1) + (b - (a + (p : Nat) + 1) + 1).toNat := by omega
  have e2 : a + ((p + 1 : Nat) : Int) = a + (p : Nat) + 1 := by omega
  rw [e, cnt_add, cnt_yes hp, cnt_zero (fun k hk => hn _ (by omega) (by omega)), e2]
theorem cnt_none (P : Int → Prop) {a b : Int} (hn : ∀ y, a ≤ y → y ≤ b → ¬ P y) : cntN P a (b - a + 1).toNat = 0 := cnt_zero fun k hk => hn _ (by omega) (by omega)
theorem tms_len {P : Int → Prop} {b : Int} : ∀ {n : Nat} {a : Int} {l : List Int}, Tms P b n a l → l.length = min n (cntN P a (b - a + 1).toNat)
  | 0, a, l, h => by
    have : l = [] := h
    subst this; simp
  | n + 1, a, l, ⟨r, hr, h⟩ => by
    cases r with
    | none =>
      have h : l = [] := h
      subst h
      rw [cnt_none P hr]; simp
    | some t =>
      obtain ⟨l', rfl, h'⟩ := h
      obtain ⟨h0, h1, hp, hn⟩ := hr
      rw [cnt_split P h0 h1 hp hn, List.length_cons, tms_len h']
      omega
theorem tms_at {P : Int → Prop} {b : Int} : ∀ {n : Nat} {a : Int} {l : List Int}, Tms P b n a l → ∀ (i : Nat) (v : Int), l[i]? = some v → a ≤ v ∧ v ≤ b ∧ P v
  | 0, a, l, h, i, v, e => by
    have : l = [] := h
    subst this; simp at e
  | n + 1, a, l, ⟨r, hr, h⟩, i, v, e => by
    cases r with
    | none =>
      have h : l = [] := h
      subst h; simp at e
    | some t =>
      obtain ⟨l', rfl, h'⟩ := h
      obtain ⟨h0, h1, hp, hn⟩ := hr
      cases i with
      | zero =>
        obtain rfl : t = v := by simpa using e
        exact ⟨h0, h1, hp⟩
      | succ i =>
        have := tms_at h' i v (by simpa using e)
        exact ⟨by omega, this.2⟩
theorem tms_head {P : Int → Prop} {b : Int} {n : Nat} {a u : Int} {l : List Int} (h : Tms P b n a l) (e : l[0]? = some u) : Mat.Least P a b (some u) := by
  cases n with
  | zero =>
    have : l = [] := h
    subst this; simp at e
  | succ n =>
    obtain ⟨r, hr, h⟩ := h
    cases r with
    | none =>
      have h : l = [] := h
      subst h; simp at e
    | some t =>
      obtain ⟨l', rfl, h'⟩ := h
      obtain rfl : t = u := by simpa using e
      exact hr
theorem tms_up {P : Int → Prop} {b : Int} : ∀ {n : Nat} {a : Int} {l : List Int}, Tms P b n a l → ∀ (i : Nat) (v u : Int), l[i]? = some v → l[i + 1]? = some u → Mat.Least P (v + 1) b (some u)
  | 0, a, l, h, i, v, u, e, _ => by
    have : l = [] := h
    subst this; simp at e
  | n + 1, a, l, ⟨r, hr, h⟩, i, v, u, e, e' => by
    cases r with
    | none =>
      have h : l = [] := h
      subst h; simp at e
    | some t =>
      obtain ⟨l', rfl, h'⟩ := h
      cases i with
      | zero =>
        obtain rfl : t = v := by simpa using e
        exact tms_head h' (by simpa using e')
      | succ i => exact tms_up h' i v u (by simpa using e) (by simpa using e')
end Go.Proofs.YtljackjcgfaanaaGreatDoor
/- Plain facts of the statements' examples. -/
namespace Go.Proofs.YtljackjcgfaanaaGreatDoor
open Go.ChangeShapes Go.RowKit
theorem on_jan (x : Exp.Ex) (n : Nat) (h : n < 31) : x.On (n : Int) ↔ Mat.mt x.a4 x.a3 x.a5 x.b3 x.b5 1 (n + 1) ((n + 4) % 7) = true := by
  have dm : Civ.dim 1970 1 = 31 := by decide
  have v : Civ.Vld 1970 1 ((n : Int) + 1) := ⟨by omega, by omega, by omega, by omega, by omega, by omega⟩
  have e : Civ.num 1970 1 ((n : Int) + 1) = n := by unfold Civ.num Civ.cum; rw [Civ.dby_first]; simp
  have q := Mat.on_iff (M := x.a4) (D := x.a3) (W := x.a5) (b3 := x.b3) (b5 := x.b5) v
  rw [e] at q
  have e1 : ((n : Int) + 1).toNat = n + 1 := by omega
  have e2 : (((n : Int) + 4) % 7).toNat = (n + 4) % 7 := by omega
  rw [e1, e2] at q
  exact q
theorem lm_at {x : Exp.Ex} {t : Int} (h : x.Lm t) : ∃ (n : Int) (hh i s : Nat), x.On n ∧ hh < 24 ∧ i < 60 ∧ s < 60 ∧ x.a2.testBit hh = true ∧ x.a1.testBit i = true ∧ x.a0.testBit s = true ∧ t = 86400 * n + 3600 * (hh : Int) + 60 * (i : Int) + (s : Int) := by
  rw [lm_iff] at h
  obtain ⟨h1, h2⟩ := h
  obtain ⟨hh, i, s, a1, a2, a3, a4, a5, a6, a7⟩ := Mat.ck_iff.1 h2
  unfold Mat.sec3 at a7
  simp only at a7
  exact ⟨t / 86400, hh, i, s, h1, a1, a2, a3, a4, a5, a6, by omega⟩
theorem lm_mk {x : Exp.Ex} {n : Int} {hh i s : Nat} (h : x.On n) (h1 : hh < 24) (h2 : i < 60) (h3 : s < 60) (h4 : x.a2.testBit hh = true) (h5 : x.a1.testBit i = true) (h6 : x.a0.testBit s = true) : x.Lm (86400 * n + 3600 * (hh : Int) + 60 * (i : Int) + (s : Int)) := by
  rw [lm_iff]
  have e1 : (86400 * n + 3600 * (hh : Int) + 60 * (i : Int) + (s : Int)) / 86400 = n := by omega
  have e2 : (86400 * n + 3600 * (hh : Int) + 60 * (i : Int) + (s : Int)) % 86400 = 3600 * (hh : Int) + 60 * (i : Int) + (s : Int) := by omega
  rw [e1, e2]
  exact ⟨h, Mat.ck_iff.2 ⟨hh, i, s, h1, h2, h3, h4, h5, h6, rfl⟩⟩
theorem bit_one0 {k : Nat} (h : (1 : Nat).testBit k = true) : k = 0 := by
  have := Bit.bit_one 0 k
  rw [Nat.pow_zero, h] at this
  exact (of_decide_eq_true this.symm).symm
theorem next_of {x : Exp.Ex} {z t u : Int} (e : errC x z [t] = 0) (h : Mat.Least (fun s => x.Lm (s + 60 * z)) (t + 1) 253402300799 (some u)) : nextO x z t = some u := (nextO_is e).uniq h
end Go.Proofs.YtljackjcgfaanaaGreatDoor
/- Contracts of the document's Same, of the statements' star and works: the examples of the chapter hold. -/
namespace Go.Proofs.YtljackjcgfaanaaGreatDoor
open Go.ChangeShapes Go.RowKit Go.Shelf

/-- a slice of these times -/
def RowT (W : World) (v : Value) (l : List Int) : Prop := ∃ A cap, v = .slice A l.length cap ∧ ∀ (j : Nat) (x : Int), l[j]? = some x → ∃ b o, A = some ⟨b, o, none⟩ ∧ W.cell? ⟨b, o + j, none⟩ = some (.int .i64 x)
theorem OwnT.rowT {w W : World} {v : Value} {l : List Int} (h : OwnT w v l W) : RowT W v l := by
  rcases h.row.2 with ⟨rfl, h0⟩ | ⟨g, cap, cur, rfl, _, hg, _, _, _, ht⟩
  · have : l = [] := List.length_eq_zero_iff.1 h0
    subst this
    exact ⟨_, _, rfl, fun j x h => by simp at h⟩
  · refine ⟨_, _, rfl, fun j x hj => ⟨g, 0, rfl, ?_⟩⟩
    have hlt : j < l.length := (List.getElem?_eq_some_iff.1 hj).1
    have e : (cur.toList.take (l.length * 1))[j]? = some (.int .i64 x) := by rw [ht, List.getElem?_map, hj]; rfl
    rw [Nat.mul_one, List.getElem?_take_of_lt hlt] at e
    simp only [World.cell?, hg]
    simpa using e
theorem Row.rowT {W : World} {B : Nat} {l : List Int} {cap : Nat} (h : Row W B 2 (l.map (.int .i64 ·))) : RowT W (.slice (some ⟨B, 0, none⟩) l.length cap) l :=
  ⟨_, _, rfl, fun j x hj => ⟨B, 0, rfl, by rw [Nat.zero_add, h.cell j, List.getElem?_map, hj]; rfl⟩⟩
theorem RowT.below {W W' : World} {v : Value} {l : List Int} (h : RowT W v l) (hb : Below W.heap.size W W') : RowT W' v l := by
  obtain ⟨A, cap, e, h⟩ := h
  refine ⟨A, cap, e, fun j x hj => ?_⟩
  obtain ⟨b, o, e1, e2⟩ := h j x hj
  exact ⟨b, o, e1, (hb.cell (p := ⟨b, o + j, none⟩) (World.block_lt_of_cell? W _ e2)).trans e2⟩
set_option maxRecDepth 100000 in
set_option maxHeartbeats 4000000 in
theorem same_any (v1 v2 : Value) (l m : List Int) (r : Bool) (hr : r = true ↔ l = m) (hl : l.length ≤ 1000000) (w : World) (h1 : RowT w v1 l) (h2 : RowT w v2 m) :
    Calls Tryz.prog 24 #[v1, v2] w fun e W' => e = .returned (.bool r) ∧ Below w.heap.size w W' := by
  obtain ⟨A, c1, rfl, g1⟩ := h1
  obtain ⟨B, c2, rfl, g2⟩ := h2
  have G1 := Lib.hid g1
  have G2 := Lib.hid g2
  clear g1 g2
  by_cases he : l.length = m.length
  · have t1 : ((l.length : Int) != (m.length : Int)) = false := by rw [he]; simp
    have t2 : (l.length != m.length) = false := by rw [he]; simp
    have HE := Lib.hid he
    have HL := Lib.hid hl
    clear he hl
    go_enter Tryz.func24, Tryz.ntmps24
    go_wp2_with fail
    go_loopw [5] (fun iv wr => ∃ k : Nat, k ≤ l.length ∧ iv = .int .i64 k ∧ Hid (Below w.heap.size w wr) ∧ Hid (l.take k = m.take k)) (fun iv _ => l.length - (intOf iv).toNat)
    case atStart => exact ⟨0, by omega, rfl, Lib.hid (Below.refl _ _), Lib.hid rfl⟩
    case round =>
      obtain ⟨k, hk, rfl, hb, hs⟩ := hrel
      by_cases hlt : k < l.length
      · have hlm : k < m.length := by have := HE.out; omega
        obtain ⟨x, hx⟩ : ∃ x, l[k]? = some x := ⟨_, List.getElem?_eq_getElem hlt⟩
        obtain ⟨y, hy⟩ : ∃ y, m[k]? = some y := ⟨_, List.getElem?_eq_getElem hlm⟩
        obtain ⟨b1, o1, rfl, e1⟩ := G1.out k x hx
        obtain ⟨b2, o2, rfl, e2⟩ := G2.out k y hy
        have d1 := (hb.out.cell (p := ⟨b1, o1 + k, none⟩) (World.block_lt_of_cell? w _ e1)).trans e1
        have d2 := (hb.out.cell (p := ⟨b2, o2 + k, none⟩) (World.block_lt_of_cell? w _ e2)).trans e2
        have wk : IntKind.i64.wrap ((k : Int) + 1) = (k : Int) + 1 := by have := HL.out; rw [IntKind.wrap_i64]; omega
        have tk : Hid (l.take (k + 1) = l.take k ++ [x] ∧ m.take (k + 1) = m.take k ++ [y]) := Lib.hid ⟨by rw [List.take_add_one, hx]; rfl, by rw [List.take_add_one, hy]; rfl⟩
        have HX := Lib.hid hx
        have HY := Lib.hid hy
        clear e1 e2 hx hy
        by_cases q : x = y
        · have t3 : (x != y) = false := by rw [q]; simp
          have HQ := Lib.hid q
          clear q
          go_wp2_with fail
          go_quiet (fail)
          go_wp2_with fail
          go_roundw
          case rel => exact ⟨k + 1, by omega, by go_num, Lib.hid (below_drewN' hb.out _), Lib.hid (by rw [tk.out.1, tk.out.2, hs.out, HQ.out])⟩
          case measure => simp [intOf]; omega
        · have t3 : (x != y) = true := by rw [bne_iff_ne]; exact q
          have NO : Hid (r = false) := Lib.hid (by
            cases r with
            | false => rfl
            | true =>
              have := hr.1 rfl
              have h1 := HX.out
              rw [this, HY.out] at h1
              exact absurd (by simpa using h1.symm) q)
          clear q
          go_wp2_with fail
          go_quiet (fail)
          go_wp2_with fail
          go_ret
          exact ⟨by rw [NO.out]; rfl, below_drewN' hb.out _⟩
      · have YES : Hid (r = true) := Lib.hid (hr.2 (by
          have := hs.out
          have e := HE.out
          rwa [List.take_of_length_le (by omega), List.take_of_length_le (by omega)] at this))
        have e := HE.out
        go_wp2_with fail
        go_ret
        exact ⟨by rw [YES.out]; rfl, hb.out⟩
  · have t1 : ((l.length : Int) != (m.length : Int)) = true := by rw [bne_iff_ne]; omega
    have t2 : (l.length != m.length) = true := by rw [bne_iff_ne]; exact he
    have NO : Hid (r = false) := Lib.hid (by
      cases r with
      | false => rfl
      | true => exact absurd (congrArg List.length (hr.1 rfl)) he)
    clear he
    go_enter Tryz.func24, Tryz.ntmps24
    go_wp2_with fail
    go_ret
    exact ⟨by rw [NO.out]; rfl, Below.refl _ _⟩
end Go.Proofs.YtljackjcgfaanaaGreatDoor
