/- Contracts of math/bits' Div64 (for a divisor up to 2^36) and of Add64 without a carry. -/
import Derived.Test.YtnajpgkahnjabaaEveE
import Derived.Test.YtnajpgkahnjabaaEveDiv
import Derived.Test.YtnajpgkahnjabaaShelf
import Derived.Laws.Externs
import Derived.Laws.Shifts
import Derived.Laws.Bits64b
import Derived.Lib.ItoaNum
import Derived.Deep.CutBlock
namespace Go.Proofs.Ytnajpgkahnjabaa
open Go.ChangeShapes Go.RowKit

theorem add64_0 (x y : Int) (hx : 0 ≤ x) (hy : 0 ≤ y) (w : World) : (callFunc 48 #[.int .u64 x, .int .u64 y, .int .u64 0]).run Try.prog w =
    .ok (.value (.tuple #[.int .u64 ((x + y) % 18446744073709551616), .int .u64 ((x + y) / 18446744073709551616)])) w := by
  rw [run_callFunc_extern Try.func48 (by kernel_rfl) (by kernel_rfl) (by kernel_rfl) (e := add64Entry) (by kernel_rfl), run_add64 x y 0 hx hy (by omega) (by omega)]
  simp [Result.andThen]

theorem bitLen_is {y : Nat} (h0 : 0 < y) (h1 : y < 18446744073709551616) : 1 ≤ Lib.bitLen y ∧ 2 ^ (Lib.bitLen y - 1) ≤ y ∧ y < 2 ^ Lib.bitLen y := Lib.bitLenAux_bounds 64 y (by omega) (by omega)
theorem and_mask {a : Nat} (ha : a < 18446744073709551616) : bits .and .u64 (a : Int) 4294967295 = ((a % 4294967296 : Nat) : Int) := by
  have h := bits_and_u64_nat a 4294967295 ha (by omega)
  have e : a &&& 4294967295 = a % 4294967296 := Nat.and_two_pow_sub_one_eq_mod a 32
  rw [e] at h
  exact h

set_option maxRecDepth 100000 in
set_option maxHeartbeats 8000000 in
theorem div_low (lo y : Nat) (w : World) (hy : 0 < y) (hl : lo < 18446744073709551616) :
    Calls Try.prog 49 #[.int .u64 0, .int .u64 lo, .int .u64 y] w fun e w' => ∃ r : Int, e = .returned (.tuple #[.int .u64 (lo / y : Nat), .int .u64 r]) ∧ ∃ m, w' = w.drewN m := by
  have t0 : ((y : Int) == 0) = false := by simp; omega
  have t1 : decide ((y : Int) ≤ 0) = false := dec_f (by omega)
  have t2 : decide (y ≤ 0) = false := dec_f (by omega)
  have t3 : (y == 0) = false := by simp; omega
  have z : ¬ y = 0 := by omega
  have q0 := Nat.div_le_self lo y
  obtain ⟨q, hq⟩ : ∃ q, lo / y = q := ⟨_, rfl⟩
  rw [hq] at q0
  have d1 : (lo : Int) / (y : Int) = (q : Int) := by rw [← hq]; simp
  have d2 : IntKind.u64.wrap (q : Int) = (q : Int) := by rw [IntKind.wrap_u64]; omega
  rw [hq]
  clear hq q0 hl
  go_enter Try.func49, Try.ntmps49
  go_wp2_with fail
  go_quiet (fail)
  go_wp2_with fail
  go_ret2
  exact ⟨_, rfl, _, rfl⟩

set_option maxRecDepth 100000 in
set_option maxHeartbeats 16000000 in
theorem div_high (hi lo y Q : Nat) (W : World) (h0 : 0 < hi) (hy : hi < y) (yl : y ≤ 68719476736) (hl : lo < 18446744073709551616) (hQ : (hi * 18446744073709551616 + lo) / y = Q) :
    Calls Try.prog 49 #[.int .u64 hi, .int .u64 lo, .int .u64 y] W fun e w' => ∃ r : Int, e = .returned (.tuple #[.int .u64 (Q : Nat), .int .u64 r]) ∧ w' = W := by
  have t0 : ((y : Int) == 0) = false := by simp; omega
  have t3 : (y == 0) = false := by simp; omega
  have t1 : decide ((y : Int) ≤ (hi : Int)) = false := dec_f (by omega)
  have t2 : decide (y ≤ hi) = false := dec_f (by omega)
  have t4 : ((hi : Int) == 0) = false := by simp; omega
  have t5 : (hi == 0) = false := by simp; omega
  obtain ⟨l1, l2, l3⟩ := bitLen_is (y := y) (by omega) (by omega)
  have LZ := Lib.hid (fun w' => (Try.bits_LeadingZeros64 (y : Int) w' (by omega) (by omega)).mono fun _ _ ⟨h1, h2⟩ => (⟨h1, h2.symm⟩ : _ ∧ w' = _))
  simp only [Int.toNat_natCast] at LZ
  obtain ⟨L, hL⟩ : ∃ L, Lib.bitLen y = L := ⟨_, rfl⟩
  rw [hL] at l1 l2 l3 LZ
  have l4 := Dv.len_small l2 yl
  obtain ⟨n0, n1⟩ := Dv.norm_is l1 (by omega) l2 l3
  obtain ⟨s, hs⟩ : ∃ s, 64 - L = s := ⟨_, rfl⟩
  rw [hs] at n0 n1
  have es : (64 : Int) - (L : Int) = (s : Int) := by omega
  rw [es] at LZ
  have s0 : 27 ≤ s := by omega
  have s1 : s ≤ 63 := by omega
  clear hL l1 l2 l3 l4 hs es
  obtain ⟨p0, p1⟩ := Dv.top_small (hi := hi) (s := s) (by omega) hy hl
  have wh := Dv.whole (hi := hi) (lo := lo) (y := y) (s := s) (by omega)
  rw [hQ] at wh
  -- the numbers that the walk meets
  obtain ⟨Y, hY⟩ : ∃ Y, y * 2 ^ s = Y := ⟨_, rfl⟩
  obtain ⟨H, hH⟩ : ∃ H, hi * 2 ^ s = H := ⟨_, rfl⟩
  obtain ⟨K, hK⟩ : ∃ K, lo / 2 ^ (64 - s) = K := ⟨_, rfl⟩
  obtain ⟨V, hV⟩ : ∃ V, lo * 2 ^ s % 18446744073709551616 = V := ⟨_, rfl⟩
  rw [hY] at n0 n1 p1 wh
  rw [hH] at p1 wh
  rw [hK] at p0 p1 wh
  rw [hV] at wh
  have V0 : V < 18446744073709551616 := by omega
  have c1 : IntKind.u64.wrap ((s : Nat) : Int) = (s : Int) := by rw [IntKind.wrap_u64]; omega
  have c2 : min s 64 = s := by omega
  have c3 : IntKind.u64.wrap ((y : Int) * 2 ^ s) = (Y : Int) := by
    have : (y : Int) * 2 ^ s = (Y : Int) := by rw [← hY]; simp
    rw [this, IntKind.wrap_u64]; omega
  have c4 : IntKind.u64.wrap ((hi : Int) * 2 ^ s) = (H : Int) := by
    have : (hi : Int) * 2 ^ s = (H : Int) := by rw [← hH]; simp
    rw [this, IntKind.wrap_u64]; omega
  obtain ⟨r, hr⟩ : ∃ r, 64 - s = r := ⟨_, rfl⟩
  have c5 : IntKind.u64.wrap (64 - (s : Int)) = (r : Int) := by rw [IntKind.wrap_u64]; omega
  have c6 : min r 64 = r := by omega
  have c7 : (lo : Int) / 2 ^ r = (K : Int) := by rw [← hK, hr]; simp
  have c8 : bits .or .u64 (H : Int) (K : Int) = ((H + K : Nat) : Int) := by
    rw [bits_or_u64_nat H K (by omega) (by omega), ← hH, Dv.low_or p0, hH]
  have c9 : IntKind.u64.wrap ((lo : Int) * 2 ^ s) = (V : Int) := by
    rw [IntKind.wrap_u64, ← hV]; simp
  have s2 : 0 ≤ (s : Int) := by omega
  clear p0 hY hH hK hV hr hQ
  obtain ⟨U, hU⟩ : ∃ U, H + K = U := ⟨_, rfl⟩
  rw [hU] at c8 wh p1
  clear hU
  obtain ⟨y1, e1⟩ : ∃ y1, Y / 4294967296 = y1 := ⟨_, rfl⟩
  obtain ⟨y0, e0⟩ : ∃ y0, Y % 4294967296 = y0 := ⟨_, rfl⟩
  obtain ⟨u1, f1⟩ : ∃ u1, V / 4294967296 = u1 := ⟨_, rfl⟩
  obtain ⟨u0, f0⟩ : ∃ u0, V % 4294967296 = u0 := ⟨_, rfl⟩
  have i1 : (Y : Int) / 4294967296 = (y1 : Int) := by omega
  have i2 : bits .and .u64 (Y : Int) 4294967295 = (y0 : Int) := by rw [and_mask n1, e0]
  have i3 : (V : Int) / 4294967296 = (u1 : Int) := by omega
  have i4 : bits .and .u64 (V : Int) 4294967295 = (u0 : Int) := by rw [and_mask V0, f0]
  have eY : y1 * 4294967296 + y0 = Y := by omega
  have DM0 := Lib.hid (show Dv.Dom y1 y0 u1 U from ⟨by omega, by omega, by omega, by omega, by rw [eY]; exact p1⟩)
  obtain ⟨A, hA⟩ : ∃ A, (U * 4294967296 + u1) / (y1 * 4294967296 + y0) = A := ⟨_, rfl⟩
  have HA := Lib.hid hA
  obtain ⟨v, hv⟩ : ∃ v, (U * 4294967296 + u1) % (y1 * 4294967296 + y0) = v := ⟨_, rfl⟩
  have v1 : v < y1 * 4294967296 + y0 := by rw [← hv]; exact Nat.mod_lt _ (by omega)
  have DM2 := Lib.hid (show Dv.Dom y1 y0 u0 v from ⟨by omega, by omega, by omega, by omega, v1⟩)
  obtain ⟨D, hD⟩ : ∃ D, (v * 4294967296 + u0) / (y1 * 4294967296 + y0) = D := ⟨_, rfl⟩
  have HD := Lib.hid hD
  have A1 := Dv.dig_small DM0.out
  rw [hA] at A1
  have D1 := Dv.dig_small DM2.out
  rw [hD] at D1
  have QE : A * 4294967296 + D = Q := by
    have := Dv.two_digits (U * 4294967296 + u1) u0 (y1 * 4294967296 + y0) (by omega)
    rw [hA, hv, hD] at this
    rw [Dv.join_is f1 f0, eY, wh] at this
    exact this.symm
  have R1 := Dv.left_is (U * 4294967296 + u1) (y1 * 4294967296 + y0)
  rw [hA, hv, eY] at R1
  rw [eY] at v1
  -- the first digit, as it is tried
  have z1 : ((y1 : Int) == 0) = false := by simp; omega
  have z2 : (y1 == 0) = false := by simp; omega
  have z3 : ¬ y1 = 0 := by omega
  obtain ⟨a, ha⟩ : ∃ a, U / y1 = a := ⟨_, rfl⟩
  obtain ⟨b, hb⟩ : ∃ b, U % y1 = b := ⟨_, rfl⟩
  have ab : a * y1 + b = U := by rw [← ha, ← hb]; exact Nat.div_add_mod' U y1
  have j1 : (U : Int) / (y1 : Int) = (a : Int) := by rw [← ha]; simp
  have j2 : IntKind.u64.wrap (a : Int) = (a : Int) := by have := Nat.div_le_self U y1; rw [IntKind.wrap_u64]; omega
  obtain ⟨m, hm⟩ : ∃ m, a * y1 = m := ⟨_, rfl⟩
  rw [hm] at ab
  have j3 : (a : Int) * (y1 : Int) = (m : Int) := by rw [← hm]; exact (Int.natCast_mul a y1).symm
  have j4 : IntKind.u64.wrap (m : Int) = (m : Int) := by rw [IntKind.wrap_u64]; omega
  have j5 : IntKind.u64.wrap ((U : Int) - (m : Int)) = (b : Int) := by rw [IntKind.wrap_u64]; omega
  have DS0 := Lib.hid (show Dv.Dig y1 y0 u1 U a b ∧ b < 4294967296 by rw [← ha, ← hb]; exact Dv.dig_start DM0.out)
  -- what is left, and the second digit
  obtain ⟨x1, hx1⟩ : ∃ x1 : Nat, IntKind.u64.wrap ((U : Int) * 4294967296) = (x1 : Int) := ⟨U * 4294967296 % 18446744073709551616, by rw [IntKind.wrap_u64]; omega⟩
  obtain ⟨x2, hx2⟩ : ∃ x2 : Nat, IntKind.u64.wrap ((x1 : Int) + (u1 : Int)) = (x2 : Int) := ⟨(x1 + u1) % 18446744073709551616, by rw [IntKind.wrap_u64]; omega⟩
  obtain ⟨M, hM⟩ : ∃ M, A * Y = M := ⟨_, rfl⟩
  rw [hM] at R1
  have k0 : (A : Int) * (Y : Int) = (M : Int) := by rw [← hM]; exact (Int.natCast_mul A Y).symm
  obtain ⟨x3, hx3⟩ : ∃ x3 : Nat, IntKind.u64.wrap (M : Int) = (x3 : Int) := ⟨M % 18446744073709551616, by rw [IntKind.wrap_u64]; omega⟩
  have k1 : IntKind.u64.wrap ((x2 : Int) - (x3 : Int)) = (v : Int) := by
    rw [IntKind.wrap_u64] at hx1 hx2 hx3 ⊢
    omega
  obtain ⟨a', ha'⟩ : ∃ a', v / y1 = a' := ⟨_, rfl⟩
  obtain ⟨b', hb'⟩ : ∃ b', v % y1 = b' := ⟨_, rfl⟩
  have ab' : a' * y1 + b' = v := by rw [← ha', ← hb']; exact Nat.div_add_mod' v y1
  have l1 : (v : Int) / (y1 : Int) = (a' : Int) := by rw [← ha']; simp
  have l2 : IntKind.u64.wrap (a' : Int) = (a' : Int) := by have := Nat.div_le_self v y1; rw [IntKind.wrap_u64]; omega
  obtain ⟨m', hm'⟩ : ∃ m', a' * y1 = m' := ⟨_, rfl⟩
  rw [hm'] at ab'
  have l3 : (a' : Int) * (y1 : Int) = (m' : Int) := by rw [← hm']; exact (Int.natCast_mul a' y1).symm
  have l4 : IntKind.u64.wrap (m' : Int) = (m' : Int) := by rw [IntKind.wrap_u64]; omega
  have l5 : IntKind.u64.wrap ((v : Int) - (m' : Int)) = (b' : Int) := by rw [IntKind.wrap_u64]; omega
  have DS2 := Lib.hid (show Dv.Dig y1 y0 u0 v a' b' ∧ b' < 4294967296 by rw [← ha', ← hb']; exact Dv.dig_start DM2.out)
  have o1 : IntKind.u64.wrap ((A : Int) * 4294967296) = (A : Int) * 4294967296 := by rw [IntKind.wrap_u64]; omega
  have o2 : IntKind.u64.wrap ((A : Int) * 4294967296 + (D : Int)) = (Q : Int) := by rw [IntKind.wrap_u64]; omega
  clear hA hv hD A1 D1 QE R1 v1 ha hb ab hm hM ha' hb' ab' hm' e1 e0 f1 f0 eY n0 n1 p1 wh V0
  go_enter Try.func49, Try.ntmps49
  go_wp2_with fail
  refine (LZ.out _).mono ?_
  rintro e w1 ⟨rfl, rfl⟩
  go_upto_block 0 with fail
  go_cut [15, 16] from 67 to 85 (fun qv _ wc => qv = .int .u64 (A : Nat) ∧ W = wc)
  case first =>
    go_wp2_with fail
    go_loop [15, 16] (fun qv rv => ∃ q r : Nat, qv = .int .u64 q ∧ rv = .int .u64 r ∧ Hid (Dv.Dig y1 y0 u1 U q r) ∧ r < 4294967296) (fun qv _ => (intOf qv).toNat)
    case atStart => exact ⟨_, _, rfl, rfl, Lib.hid DS0.out.1, DS0.out.2⟩
    case round =>
      obtain ⟨q, r, rfl, rfl, DG, r0⟩ := hrel
      have d := DM0.out
      have q1 := DG.out.q1
      have y1l := d.b
      have y1g := d.a
      have y0l := d.c
      have u1l := d.d
      clear d
      by_cases big : 4294967296 ≤ q
      · have t0 : decide ((4294967296 : Int) ≤ (q : Int)) = true := dec_t (by omega)
        have t1 : decide (4294967296 ≤ q) = true := dec_t big
        obtain ⟨qp, DN, ql⟩ := Dv.dig_more DM0.out DG.out (.inl big)
        obtain ⟨q', hq'⟩ : ∃ q', q - 1 = q' := ⟨_, rfl⟩
        rw [hq'] at DN ql
        have x4 : IntKind.u64.wrap ((q : Int) - 1) = (q' : Int) := by rw [IntKind.wrap_u64]; omega
        have QQ : Hid (q' < q) := Lib.hid (by omega)
        clear hq'
        have x6 : IntKind.u64.wrap ((r : Int) + (y1 : Int)) = ((r + y1 : Nat) : Int) := by rw [IntKind.wrap_u64]; omega
        obtain ⟨r', hr⟩ : ∃ r', r + y1 = r' := ⟨_, rfl⟩
        rw [hr] at x6 DN
        by_cases out : 4294967296 ≤ r'
        · have t8 : decide ((4294967296 : Int) ≤ (r' : Int)) = true := dec_t (by omega)
          have t9 : decide (4294967296 ≤ r') = true := dec_t out
          have E := Lib.hid ((Dv.dig_break DM0.out DN ql out).trans HA.out)
          have DN := Lib.hid DN
          clear hr out q1 y1l y1g y0l u1l qp ql
          go_wp2_with fail
          go_meet
          case rel => exact ⟨by rw [E.out], rfl⟩
        · have t8 : decide ((4294967296 : Int) ≤ (r' : Int)) = false := dec_f (by omega)
          have t9 : decide (4294967296 ≤ r') = false := dec_f out
          have DN := Lib.hid DN
          have OU : Hid (r' < 4294967296) := Lib.hid (by omega)
          clear hr out q1 y1l y1g y0l u1l qp ql
          go_wp2_with fail
          go_round
          case rel => exact ⟨q', r', rfl, rfl, DN, OU.out⟩
          case measure => have := QQ.out; simp [intOf]; omega
      · have t0 : decide ((4294967296 : Int) ≤ (q : Int)) = false := dec_f (by omega)
        have t1 : decide (4294967296 ≤ q) = false := dec_f big
        have m0 := Nat.mul_le_mul (show q ≤ 4294967295 by omega) (show y0 ≤ 4294967295 by omega)
        obtain ⟨m, hm⟩ : ∃ m, q * y0 = m := ⟨_, rfl⟩
        have im : (q : Int) * (y0 : Int) = (m : Int) := by rw [← hm]; exact (Int.natCast_mul q y0).symm
        rw [hm] at m0
        have x1 : IntKind.u64.wrap (m : Int) = (m : Int) := by rw [IntKind.wrap_u64]; omega
        have x2 : IntKind.u64.wrap (4294967296 * (r : Int)) = 4294967296 * (r : Int) := by rw [IntKind.wrap_u64]; omega
        have x3 : IntKind.u64.wrap (4294967296 * (r : Int) + (u1 : Int)) = 4294967296 * (r : Int) + (u1 : Int) := by rw [IntKind.wrap_u64]; omega
        by_cases more : 4294967296 * r + u1 < m
        · have t2 : decide (4294967296 * (r : Int) + (u1 : Int) < (m : Int)) = true := dec_t (by omega)
          have t3 : decide (4294967296 * r + u1 < m) = true := dec_t more
          obtain ⟨qp, DN, ql⟩ := Dv.dig_more DM0.out DG.out (.inr (by rw [hm]; exact more))
          obtain ⟨q', hq'⟩ : ∃ q', q - 1 = q' := ⟨_, rfl⟩
          clear hm
          rw [hq'] at DN ql
          have x4 : IntKind.u64.wrap ((q : Int) - 1) = (q' : Int) := by rw [IntKind.wrap_u64]; omega
          have QQ : Hid (q' < q) := Lib.hid (by omega)
          clear hq'
          have x6 : IntKind.u64.wrap ((r : Int) + (y1 : Int)) = ((r + y1 : Nat) : Int) := by rw [IntKind.wrap_u64]; omega
          obtain ⟨r', hr⟩ : ∃ r', r + y1 = r' := ⟨_, rfl⟩
          rw [hr] at x6 DN
          by_cases out : 4294967296 ≤ r'
          · have t8 : decide ((4294967296 : Int) ≤ (r' : Int)) = true := dec_t (by omega)
            have t9 : decide (4294967296 ≤ r') = true := dec_t out
            have E := Lib.hid ((Dv.dig_break DM0.out DN ql out).trans HA.out)
            have DN := Lib.hid DN
            clear hr out q1 y1l y1g y0l u1l qp ql
            go_wp2_with fail
            go_meet
            case rel => exact ⟨by rw [E.out], rfl⟩
          · have t8 : decide ((4294967296 : Int) ≤ (r' : Int)) = false := dec_f (by omega)
            have t9 : decide (4294967296 ≤ r') = false := dec_f out
            have DN := Lib.hid DN
            have OU : Hid (r' < 4294967296) := Lib.hid (by omega)
            clear hr out q1 y1l y1g y0l u1l qp ql
            go_wp2_with fail
            go_round
            case rel => exact ⟨q', r', rfl, rfl, DN, OU.out⟩
            case measure => have := QQ.out; simp [intOf]; omega
        · have t2 : decide (4294967296 * (r : Int) + (u1 : Int) < (m : Int)) = false := dec_f (by omega)
          have t3 : decide (4294967296 * r + u1 < m) = false := dec_f more
          have E := Lib.hid ((Dv.dig_done DM0.out DG.out (by rw [hm]; omega)).trans HA.out)
          clear hm
          go_wp2_with fail
          go_meet
          case rel => exact ⟨by rw [E.out], rfl⟩

  case rest =>
    obtain ⟨rfl, rfl⟩ := hcut
    go_upto_block 2 with fail
    go_cut [18, 16] from 102 to 120 (fun qv _ wc => qv = .int .u64 (D : Nat) ∧ W = wc)
    case first =>
      go_wp2_with fail
      go_loop [18, 16] (fun qv rv => ∃ q r : Nat, qv = .int .u64 q ∧ rv = .int .u64 r ∧ Hid (Dv.Dig y1 y0 u0 v q r) ∧ r < 4294967296) (fun qv _ => (intOf qv).toNat)
      case atStart => exact ⟨_, _, rfl, rfl, Lib.hid DS2.out.1, DS2.out.2⟩
      case round =>
        obtain ⟨q, r, rfl, rfl, DG, r0⟩ := hrel
        have d := DM2.out
        have q1 := DG.out.q1
        have y1l := d.b
        have y1g := d.a
        have y0l := d.c
        have u1l := d.d
        clear d
        by_cases big : 4294967296 ≤ q
        · have t0 : decide ((4294967296 : Int) ≤ (q : Int)) = true := dec_t (by omega)
          have t1 : decide (4294967296 ≤ q) = true := dec_t big
          obtain ⟨qp, DN, ql⟩ := Dv.dig_more DM2.out DG.out (.inl big)
          obtain ⟨q', hq'⟩ : ∃ q', q - 1 = q' := ⟨_, rfl⟩
          rw [hq'] at DN ql
          have x4 : IntKind.u64.wrap ((q : Int) - 1) = (q' : Int) := by rw [IntKind.wrap_u64]; omega
          have QQ : Hid (q' < q) := Lib.hid (by omega)
          clear hq'
          have x6 : IntKind.u64.wrap ((r : Int) + (y1 : Int)) = ((r + y1 : Nat) : Int) := by rw [IntKind.wrap_u64]; omega
          obtain ⟨r', hr⟩ : ∃ r', r + y1 = r' := ⟨_, rfl⟩
          rw [hr] at x6 DN
          by_cases out : 4294967296 ≤ r'
          · have t8 : decide ((4294967296 : Int) ≤ (r' : Int)) = true := dec_t (by omega)
            have t9 : decide (4294967296 ≤ r') = true := dec_t out
            have E := Lib.hid ((Dv.dig_break DM2.out DN ql out).trans HD.out)
            have DN := Lib.hid DN
            clear hr out q1 y1l y1g y0l u1l qp ql
            go_wp2_with fail
            go_meet
            case rel => exact ⟨by rw [E.out], rfl⟩
          · have t8 : decide ((4294967296 : Int) ≤ (r' : Int)) = false := dec_f (by omega)
            have t9 : decide (4294967296 ≤ r') = false := dec_f out
            have DN := Lib.hid DN
            have OU : Hid (r' < 4294967296) := Lib.hid (by omega)
            clear hr out q1 y1l y1g y0l u1l qp ql
            go_wp2_with fail
            go_round
            case rel => exact ⟨q', r', rfl, rfl, DN, OU.out⟩
            case measure => have := QQ.out; simp [intOf]; omega
        · have t0 : decide ((4294967296 : Int) ≤ (q : Int)) = false := dec_f (by omega)
          have t1 : decide (4294967296 ≤ q) = false := dec_f big
          have m0 := Nat.mul_le_mul (show q ≤ 4294967295 by omega) (show y0 ≤ 4294967295 by omega)
          obtain ⟨m, hm⟩ : ∃ m, q * y0 = m := ⟨_, rfl⟩
          have im : (q : Int) * (y0 : Int) = (m : Int) := by rw [← hm]; exact (Int.natCast_mul q y0).symm
          rw [hm] at m0
          have x1 : IntKind.u64.wrap (m : Int) = (m : Int) := by rw [IntKind.wrap_u64]; omega
          have x2 : IntKind.u64.wrap (4294967296 * (r : Int)) = 4294967296 * (r : Int) := by rw [IntKind.wrap_u64]; omega
          have x3 : IntKind.u64.wrap (4294967296 * (r : Int) + (u0 : Int)) = 4294967296 * (r : Int) + (u0 : Int) := by rw [IntKind.wrap_u64]; omega
          by_cases more : 4294967296 * r + u0 < m
          · have t2 : decide (4294967296 * (r : Int) + (u0 : Int) < (m : Int)) = true := dec_t (by omega)
            have t3 : decide (4294967296 * r + u0 < m) = true := dec_t more
            obtain ⟨qp, DN, ql⟩ := Dv.dig_more DM2.out DG.out (.inr (by rw [hm]; exact more))
            obtain ⟨q', hq'⟩ : ∃ q', q - 1 = q' := ⟨_, rfl⟩
            clear hm
            rw [hq'] at DN ql
            have x4 : IntKind.u64.wrap ((q : Int) - 1) = (q' : Int) := by rw [IntKind.wrap_u64]; omega
            have QQ : Hid (q' < q) := Lib.hid (by omega)
            clear hq'
            have x6 : IntKind.u64.wrap ((r : Int) + (y1 : Int)) = ((r + y1 : Nat) : Int) := by rw [IntKind.wrap_u64]; omega
            obtain ⟨r', hr⟩ : ∃ r', r + y1 = r' := ⟨_, rfl⟩
            rw [hr] at x6 DN
            by_cases out : 4294967296 ≤ r'
            · have t8 : decide ((4294967296 : Int) ≤ (r' : Int)) = true := dec_t (by omega)
              have t9 : decide (4294967296 ≤ r') = true := dec_t out
              have E := Lib.hid ((Dv.dig_break DM2.out DN ql out).trans HD.out)
              have DN := Lib.hid DN
              clear hr out q1 y1l y1g y0l u1l qp ql
              go_wp2_with fail
              go_meet
              case rel => exact ⟨by rw [E.out], rfl⟩
            · have t8 : decide ((4294967296 : Int) ≤ (r' : Int)) = false := dec_f (by omega)
              have t9 : decide (4294967296 ≤ r') = false := dec_f out
              have DN := Lib.hid DN
              have OU : Hid (r' < 4294967296) := Lib.hid (by omega)
              clear hr out q1 y1l y1g y0l u1l qp ql
              go_wp2_with fail
              go_round
              case rel => exact ⟨q', r', rfl, rfl, DN, OU.out⟩
              case measure => have := QQ.out; simp [intOf]; omega
          · have t2 : decide (4294967296 * (r : Int) + (u0 : Int) < (m : Int)) = false := dec_f (by omega)
            have t3 : decide (4294967296 * r + u0 < m) = false := dec_f more
            have E := Lib.hid ((Dv.dig_done DM2.out DG.out (by rw [hm]; omega)).trans HD.out)
            clear hm
            go_wp2_with fail
            go_meet
            case rel => exact ⟨by rw [E.out], rfl⟩

    case rest =>
      obtain ⟨rfl, rfl⟩ := hcut
      go_wp2_with fail
      go_ret2
      exact ⟨_, rfl, rfl⟩
end Go.Proofs.Ytnajpgkahnjabaa
