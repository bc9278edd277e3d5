/- Plain facts on powers that are clipped on the way. -/
import Derived.Test.YtnhdcoolhbjmmaaSatMath
import Derived.Lib.BitFns
import Derived.Lib.ItoaNum
import Derived.Lib.RabinKarpLaws
namespace Go.Proofs.Ytnhdcoolhbjmmaa
open Go.RowKit

theorem clip_mul1 (x y : Int) : clip (clip x * y) = clip (x * y) := by
  by_cases h : 4611686018427387904 < x
  · rw [clip_hi (a := x) (by omega)]
    by_cases y0 : y = 0
    · subst y0; simp
    · by_cases yp : 0 < y
      · have k1 := Int.mul_le_mul_of_nonneg_left (show 1 ≤ y by omega) (show (0 : Int) ≤ x by omega)
        rw [clip_hi (a := x * y) (by omega), clip_hi (by omega)]
      · have k1 := Int.mul_le_mul_of_nonneg_left (show y ≤ -1 by omega) (show (0 : Int) ≤ x by omega)
        rw [clip_lo (a := x * y) (by omega), clip_lo (by omega)]
  · by_cases l : x < -4611686018427387904
    · rw [clip_lo (a := x) (by omega)]
      by_cases y0 : y = 0
      · subst y0; simp
      · by_cases yp : 0 < y
        · have k1 := Int.mul_le_mul_of_nonpos_left (show x ≤ 0 by omega) (show 1 ≤ y by omega)
          rw [clip_lo (a := x * y) (by omega), clip_lo (by omega)]
        · have k1 := Int.mul_le_mul_of_nonpos_left (show x ≤ 0 by omega) (show y ≤ -1 by omega)
          rw [clip_hi (a := x * y) (by omega), clip_hi (by omega)]
    · rw [clip_in (a := x) (by omega) (by omega)]
theorem clip_mul (x y : Int) : clip (clip x * clip y) = clip (x * y) := by
  rw [clip_mul1, Int.mul_comm, clip_mul1, Int.mul_comm]
theorem mulS_pow (a : Int) (i j : Nat) : mulS (clip (a ^ i)) (clip (a ^ j)) = clip (a ^ (i + j)) := by
  unfold mulS; rw [clip_clip, clip_clip, clip_mul, Int.pow_add]
theorem mulS_pow_one (a : Int) (i : Nat) : mulS (clip (clip a ^ i)) a = clip (clip a ^ (i + 1)) := by
  unfold mulS; rw [clip_clip, clip_mul1, Int.pow_succ]
def lenS (x : Int) : Nat := Lib.bitLen x.toNat
theorem lenS_le (x : Int) (h : x ≤ 9223372036854775807) : lenS x ≤ 63 := Lib.bitLen_le _ 63 (by omega) (by omega)
theorem lenS_lt (x : Int) (h : x ≤ 9223372036854775807) : x.toNat < 2 ^ lenS x := by
  by_cases z : x.toNat = 0
  · rw [z]; exact Nat.two_pow_pos _
  · exact (Lib.bitLenAux_bounds 64 x.toNat (by omega) z).2.2
def bitAt (n : Int) (k : Nat) : Nat := n.toNat / 2 ^ k % 2
theorem bitAt_lt (n : Int) (k : Nat) : bitAt n k < 2 := Nat.mod_lt _ (by omega)
theorem mod_step (n : Int) (k : Nat) : n.toNat % 2 ^ (k + 1) = n.toNat % 2 ^ k + 2 ^ k * bitAt n k := by
  rw [Nat.pow_succ, Nat.mod_mul]; rfl
def powS (a n : Int) : Int := if n < 0 then 0 else clip (clip a ^ n.toNat)
theorem powS_neg {a n : Int} (h : n < 0) : powS a n = 0 := by simp [powS, h]
theorem powS_pos {a n : Int} (h : 0 ≤ n) : powS a n = clip (clip a ^ n.toNat) := by simp [powS, show ¬ n < 0 by omega]
/-- powers of great exponents -/
def farS (a : Int) (odd : Nat) : Int := if a = 0 then 0 else if a = 1 then 1 else if a = -1 then (if odd = 1 then -1 else 1) else if a < 0 ∧ odd = 1 then -4611686018427387904 else 4611686018427387904
theorem pow62 (a : Int) (h : a ≤ -2 ∨ 2 ≤ a) : clip (a ^ 62) = 4611686018427387904 := by
  have n0 : 0 ≤ a ^ 62 := by
    rw [show (62 : Nat) = 31 + 31 from rfl, Int.pow_add]
    by_cases k : 0 ≤ a ^ 31
    · exact Int.mul_nonneg k k
    · exact Int.mul_nonneg_of_nonpos_of_nonpos (by omega) (by omega)
  have n1 : 2 ^ 62 ≤ (a ^ 62).natAbs := by
    rw [Int.natAbs_pow]
    exact Nat.pow_le_pow_left (by omega) 62
  have n2 : (2 : Nat) ^ 62 = 4611686018427387904 := by decide
  rw [n2] at n1
  rw [clip_hi (by omega)]
theorem pow_far (a : Int) : ∀ j : Nat, clip (a ^ (62 + j)) = farS a ((62 + j) % 2)
  | 0 => by
    rw [Nat.add_zero]
    unfold farS
    by_cases a0 : a = 0
    · subst a0; decide
    · by_cases a1 : a = 1
      · subst a1; decide
      · by_cases a2 : a = -1
        · subst a2; decide
        · rw [pow62 a (by omega), if_neg a0, if_neg a1, if_neg a2, if_neg (by omega)]
  | j + 1 => by
    rw [show 62 + (j + 1) = (62 + j) + 1 by omega, Int.pow_succ, ← clip_mul1, pow_far a j]
    have p : (62 + j) % 2 = 0 ∨ (62 + j) % 2 = 1 := by omega
    unfold farS
    by_cases a0 : a = 0
    · subst a0; simp; decide
    · by_cases a1 : a = 1
      · subst a1; simp; decide
      · by_cases a2 : a = -1
        · subst a2
          rcases p with p | p
          · rw [p, show (62 + j + 1) % 2 = 1 by omega]; decide
          · rw [p, show (62 + j + 1) % 2 = 0 by omega]; decide
        · rw [if_neg a0, if_neg a1, if_neg a2, if_neg a0, if_neg a1, if_neg a2]
          rcases p with p | p
          · rw [p, show (62 + j + 1) % 2 = 1 by omega, if_neg (by omega)]
            by_cases n : a < 0
            · rw [if_pos ⟨n, rfl⟩, clip_lo (by omega)]
            · rw [if_neg (by omega), clip_hi (by omega)]
          · rw [p, show (62 + j + 1) % 2 = 0 by omega, if_neg (show ¬ (a < 0 ∧ 0 = 1) by omega)]
            by_cases n : a < 0
            · rw [if_pos ⟨n, rfl⟩, clip_hi (by omega)]
            · rw [if_neg (by omega), clip_hi (by omega)]
theorem pow_far' (a : Int) (i : Nat) (h : 62 ≤ i) : clip (a ^ i) = farS a (i % 2) := by
  have := pow_far a (i - 62)
  rwa [show 62 + (i - 62) = i by omega] at this
theorem pow_same (a : Int) (i j : Nat) (h : 62 ≤ i) (k : 62 ≤ j) (e : i % 2 = j % 2) : clip (a ^ i) = clip (a ^ j) := by
  rw [pow_far' a i h, pow_far' a j k, e]
theorem bit_test {n : Int} (h : 0 ≤ n) (h1 : n ≤ 9223372036854775807) {k : Nat} (v : Nat) (hv : bitAt n k = v) : (bits BinOp.and IntKind.i64 (n / 2 ^ k) 1 == 1) = (v == 1) := by
  have e : n / 2 ^ k = ((n.toNat / 2 ^ k : Nat) : Int) := by
    rw [Int.natCast_ediv, Int.toNat_of_nonneg h]; simp
  have l : n.toNat / 2 ^ k ≤ n.toNat := Nat.div_le_self _ _
  rw [e, _root_.Go.Proofs.and_one _ (by omega)]
  unfold bitAt at hv
  rw [hv, Bool.eq_iff_iff]
  simp
  omega
theorem bit_yes {n : Int} (h : 0 ≤ n) (h1 : n ≤ 9223372036854775807) {k : Nat} (hk : k ≤ 63) (hv : bitAt n k = 1) : (bits BinOp.and IntKind.i64 (n / 2 ^ k) 1 == 1) = true ∧ (bits BinOp.and IntKind.i64 (n / 2 ^ min k 64) 1 == 1) = true := by
  rw [show min k 64 = k by omega]
  exact ⟨bit_test h h1 1 hv, bit_test h h1 1 hv⟩
theorem bit_no {n : Int} (h : 0 ≤ n) (h1 : n ≤ 9223372036854775807) {k : Nat} (hk : k ≤ 63) (hv : bitAt n k = 0) : (bits BinOp.and IntKind.i64 (n / 2 ^ k) 1 == 1) = false ∧ (bits BinOp.and IntKind.i64 (n / 2 ^ min k 64) 1 == 1) = false := by
  rw [show min k 64 = k by omega]
  exact ⟨bit_test h h1 0 hv, bit_test h h1 0 hv⟩
end Go.Proofs.Ytnhdcoolhbjmmaa
