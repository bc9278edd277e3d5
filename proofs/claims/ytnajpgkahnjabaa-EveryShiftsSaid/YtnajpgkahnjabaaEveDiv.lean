/- Plain facts on the division of a number of two words by one word, digit by digit. No program stands here. -/
namespace Go.Proofs.Ytnajpgkahnjabaa.Dv

/-- the digit q that is tried, and what is left -/
structure Dig (y1 y0 u1 u2 q r : Nat) : Prop where
  eq : q * y1 + r = u2
  ge : (u2 * 4294967296 + u1) / (y1 * 4294967296 + y0) ≤ q
  q1 : q ≤ 4294967297
/-- what holds throughout -/
structure Dom (y1 y0 u1 u2 : Nat) : Prop where
  a : 2147483648 ≤ y1
  b : y1 < 4294967296
  c : y0 < 4294967296
  d : u1 < 4294967296
  e : u2 < y1 * 4294967296 + y0
theorem mul_split (q y1 y0 : Nat) : q * (y1 * 4294967296 + y0) = q * y1 * 4294967296 + q * y0 := by
  rw [Nat.mul_add, ← Nat.mul_assoc]
theorem dig_start {y1 y0 u1 u2 : Nat} (h : Dom y1 y0 u1 u2) : Dig y1 y0 u1 u2 (u2 / y1) (u2 % y1) ∧ u2 % y1 < 4294967296 := by
  obtain ⟨a, b, c, d, e⟩ := h
  refine ⟨⟨Nat.div_add_mod' u2 y1, ?_, ?_⟩, by have := Nat.mod_lt u2 (show 0 < y1 by omega); omega⟩
  · rw [Nat.le_div_iff_mul_le (by omega)]
    have := Nat.div_mul_le_self (u2 * 4294967296 + u1) (y1 * 4294967296 + y0)
    rw [mul_split] at this
    omega
  · have : u2 / y1 < 4294967298 := by
      rw [Nat.div_lt_iff_lt_mul (by omega)]
      omega
    omega
/-- the true digit is small -/
theorem dig_small {y1 y0 u1 u2 : Nat} (h : Dom y1 y0 u1 u2) : (u2 * 4294967296 + u1) / (y1 * 4294967296 + y0) < 4294967296 := by
  obtain ⟨a, b, c, d, e⟩ := h
  rw [Nat.div_lt_iff_lt_mul (by omega)]
  omega
theorem dig_more {y1 y0 u1 u2 q r : Nat} (h : Dom y1 y0 u1 u2) (k : Dig y1 y0 u1 u2 q r) (t : 4294967296 ≤ q ∨ 4294967296 * r + u1 < q * y0) : 1 ≤ q ∧ Dig y1 y0 u1 u2 (q - 1) (r + y1) ∧ q - 1 ≤ 4294967296 := by
  have s := dig_small h
  obtain ⟨e, g, l⟩ := k
  obtain ⟨Q, hQ⟩ : ∃ Q, (u2 * 4294967296 + u1) / (y1 * 4294967296 + y0) = Q := ⟨_, rfl⟩
  rw [hQ] at g s
  have lt : Q < q := by
    rcases t with t | t
    · omega
    · apply Classical.byContradiction
      intro w
      have hq : Q = q := by omega
      have := Nat.div_mul_le_self (u2 * 4294967296 + u1) (y1 * 4294967296 + y0)
      rw [hQ, hq, mul_split] at this
      omega
  have e1 : (q - 1) * y1 + y1 = q * y1 := by
    have : q = (q - 1) + 1 := by omega
    have := congrArg (· * y1) this
    simp only [Nat.add_mul, Nat.one_mul] at this
    omega
  exact ⟨by omega, ⟨by omega, by rw [hQ]; omega, by omega⟩, by omega⟩
theorem dig_done {y1 y0 u1 u2 q r : Nat} (h : Dom y1 y0 u1 u2) (k : Dig y1 y0 u1 u2 q r) (t : q * y0 ≤ 4294967296 * r + u1) : q = (u2 * 4294967296 + u1) / (y1 * 4294967296 + y0) := by
  have g := k.ge
  have e := k.eq
  refine Nat.le_antisymm ?_ g
  obtain ⟨a, b, c, d, _⟩ := h
  rw [Nat.le_div_iff_mul_le (by omega), mul_split]
  omega
theorem dig_break {y1 y0 u1 u2 q r : Nat} (h : Dom y1 y0 u1 u2) (k : Dig y1 y0 u1 u2 q r) (q1 : q ≤ 4294967296) (t : 4294967296 ≤ r) : q = (u2 * 4294967296 + u1) / (y1 * 4294967296 + y0) := by
  refine dig_done h k ?_
  have hc : y0 ≤ 4294967295 := by have := h.c; omega
  have := Nat.mul_le_mul q1 hc
  have := h.d
  omega
/-- two digits make the quotient -/
theorem two_digits (u v y : Nat) (hy : 0 < y) : (u * 4294967296 + v) / y = u / y * 4294967296 + (u % y * 4294967296 + v) / y := by
  have e : u * 4294967296 + v = (u % y * 4294967296 + v) + y * (u / y * 4294967296) := by
    have := Nat.div_add_mod u y
    rw [← Nat.mul_assoc]
    omega
  rw [e, Nat.add_mul_div_left _ _ hy]
  omega
/-- shifted by so many bits: the two words of the number -/
theorem shifted (hi lo s : Nat) (hs : s ≤ 64) : (hi * 2 ^ s + lo / 2 ^ (64 - s)) * 18446744073709551616 + lo * 2 ^ s % 18446744073709551616 = (hi * 18446744073709551616 + lo) * 2 ^ s := by
  have e : (2 : Nat) ^ (64 - s) * 2 ^ s = 18446744073709551616 := by rw [← Nat.pow_add, show 64 - s + s = 64 by omega]
  have e2 : lo / 2 ^ (64 - s) = lo * 2 ^ s / 18446744073709551616 := by
    rw [← e, Nat.mul_div_mul_right _ _ (Nat.two_pow_pos s)]
  rw [e2]
  have := Nat.div_add_mod (lo * 2 ^ s) 18446744073709551616
  rw [Nat.add_mul, Nat.add_mul, Nat.mul_right_comm hi (2 ^ s)]
  omega
/-- the whole: the digits' quotient is that of the numbers as they came -/
theorem whole {hi lo y s : Nat} (hs : s ≤ 64) :
    ((hi * 2 ^ s + lo / 2 ^ (64 - s)) * 18446744073709551616 + lo * 2 ^ s % 18446744073709551616) / (y * 2 ^ s) = (hi * 18446744073709551616 + lo) / y := by
  rw [shifted hi lo s hs, Nat.mul_div_mul_right _ _ (Nat.two_pow_pos s)]
theorem low_or {a b s : Nat} (h : b < 2 ^ s) : (a * 2 ^ s) ||| b = a * 2 ^ s + b := by
  rw [← Nat.shiftLeft_eq]
  exact (Nat.shiftLeft_add_eq_or_of_lt h a).symm
/-- shifted so far that the greatest bit is set -/
theorem norm_is {y L : Nat} (l1 : 1 ≤ L) (l64 : L ≤ 64) (h0 : 2 ^ (L - 1) ≤ y) (h1 : y < 2 ^ L) : 9223372036854775808 ≤ y * 2 ^ (64 - L) ∧ y * 2 ^ (64 - L) < 18446744073709551616 := by
  have e1 : (2 : Nat) ^ (L - 1) * 2 ^ (64 - L) = 9223372036854775808 := by rw [← Nat.pow_add, show L - 1 + (64 - L) = 63 by omega]
  have e2 : (2 : Nat) ^ L * 2 ^ (64 - L) = 18446744073709551616 := by rw [← Nat.pow_add, show L + (64 - L) = 64 by omega]
  have p := Nat.two_pow_pos (64 - L)
  have a := Nat.mul_le_mul_right (2 ^ (64 - L)) h0
  have b := Nat.mul_lt_mul_of_pos_right h1 p
  omega
theorem len_small {y L : Nat} (h0 : 2 ^ (L - 1) ≤ y) (hy : y ≤ 68719476736) : L ≤ 37 := by
  apply Classical.byContradiction
  intro q
  have := Nat.pow_le_pow_right (n := 2) (by omega) (show 37 ≤ L - 1 by omega)
  omega
theorem top_small {hi lo y s : Nat} (hs : s ≤ 64) (h : hi < y) (hl : lo < 18446744073709551616) : lo / 2 ^ (64 - s) < 2 ^ s ∧ hi * 2 ^ s + lo / 2 ^ (64 - s) < y * 2 ^ s := by
  have e : (2 : Nat) ^ (64 - s) * 2 ^ s = 18446744073709551616 := by rw [← Nat.pow_add, show 64 - s + s = 64 by omega]
  have a : lo / 2 ^ (64 - s) < 2 ^ s := by rw [Nat.div_lt_iff_lt_mul (Nat.two_pow_pos _), Nat.mul_comm, e]; exact hl
  refine ⟨a, ?_⟩
  have b := Nat.mul_le_mul_right (2 ^ s) (show hi + 1 ≤ y by omega)
  rw [Nat.add_mul] at b
  omega
theorem join_is {U V u1 u0 : Nat} (f1 : V / 4294967296 = u1) (f0 : V % 4294967296 = u0) : (U * 4294967296 + u1) * 4294967296 + u0 = U * 18446744073709551616 + V := by omega
/-- what is left of a digit's division -/
theorem left_is (u Y : Nat) : u - u / Y * Y = u % Y ∧ u / Y * Y ≤ u := by
  have := Nat.div_add_mod u Y
  rw [Nat.mul_comm] at this
  omega
end Go.Proofs.Ytnajpgkahnjabaa.Dv
