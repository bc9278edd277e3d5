/- Plain facts on saturating arithmetic: no program in sight. -/
import Derived.WalkKit
namespace Go.Proofs.Ytnhdcoolhbjmmaa
open Go.RowKit

/-- the number from -2^62 to 2^62 that is nearest -/
def clip (a : Int) : Int := if a < -4611686018427387904 then -4611686018427387904 else if 4611686018427387904 < a then 4611686018427387904 else a
def addS (a b : Int) : Int := clip (clip a + clip b)
def subS (a b : Int) : Int := clip (clip a - clip b)
def mulS (a b : Int) : Int := clip (clip a * clip b)
def fits (n : Int) : Bool := decide (-9223372036854775808 ≤ n) && decide (n ≤ 9223372036854775807)
def valS (n : Int) : Int := if fits n then n else 0
def errS (n : Int) : Int := if fits n then 0 else 7

theorem clip_bd (a : Int) : -4611686018427387904 ≤ clip a ∧ clip a ≤ 4611686018427387904 := by unfold clip; omega
theorem clip_in {a : Int} (h : -4611686018427387904 ≤ a) (k : a ≤ 4611686018427387904) : clip a = a := by unfold clip; omega
theorem clip_clip (a : Int) : clip (clip a) = clip a := clip_in (clip_bd a).1 (clip_bd a).2
theorem clip_hi {a : Int} (h : 4611686018427387904 ≤ a) : clip a = 4611686018427387904 := by unfold clip; omega
theorem clip_lo {a : Int} (h : a ≤ -4611686018427387904) : clip a = -4611686018427387904 := by unfold clip; omega
theorem clip_neg (a : Int) : clip (-a) = -clip a := by unfold clip; omega
theorem addS_bd (a b : Int) : -4611686018427387904 ≤ addS a b ∧ addS a b ≤ 4611686018427387904 := clip_bd _
theorem subS_bd (a b : Int) : -4611686018427387904 ≤ subS a b ∧ subS a b ≤ 4611686018427387904 := clip_bd _
theorem mulS_bd (a b : Int) : -4611686018427387904 ≤ mulS a b ∧ mulS a b ≤ 4611686018427387904 := clip_bd _
theorem fits_of {n : Int} (h : -9223372036854775808 ≤ n) (k : n ≤ 9223372036854775807) : fits n = true := by simp [fits, h, k]
theorem fits_lo {n : Int} (h : n < -9223372036854775808) : fits n = false := by simp [fits]; omega
theorem fits_hi {n : Int} (h : 9223372036854775807 < n) : fits n = false := by simp [fits]; omega
theorem valS_in {n : Int} (h : -9223372036854775808 ≤ n) (k : n ≤ 9223372036854775807) : valS n = n := by simp [valS, fits_of h k]
theorem errS_in {n : Int} (h : -9223372036854775808 ≤ n) (k : n ≤ 9223372036854775807) : errS n = 0 := by simp [errS, fits_of h k]
theorem valS_lo {n : Int} (h : n < -9223372036854775808) : valS n = 0 := by simp [valS, fits_lo h]
theorem errS_lo {n : Int} (h : n < -9223372036854775808) : errS n = 7 := by simp [errS, fits_lo h]
theorem valS_hi {n : Int} (h : 9223372036854775807 < n) : valS n = 0 := by simp [valS, fits_hi h]
theorem errS_hi {n : Int} (h : 9223372036854775807 < n) : errS n = 7 := by simp [errS, fits_hi h]
theorem wrap_hi {n : Int} (h : 9223372036854775807 < n) (k : n < 18446744073709551616) : wrap64 n < 0 ∧ -9223372036854775808 ≤ wrap64 n := by unfold wrap64; omega
theorem wrap_lo {n : Int} (h : n < -9223372036854775808) (k : -18446744073709551616 ≤ n) : 0 ≤ wrap64 n ∧ wrap64 n ≤ 9223372036854775807 := by unfold wrap64; omega
theorem ret_int {k : IntKind} {a b : Int} (h : a = b) : Ending.returned (.int k a) = .returned (.int k b) := by rw [h]
theorem ret_two {a b c d : Int} (h : a = c) (g : b = d) : Ending.returned (.tuple #[.int .i64 a, .int .i64 b]) = .returned (.tuple #[.int .i64 c, .int .i64 d]) := by rw [h, g]
theorem ret_three {a b c d e f : Int} (h : a = d) (g : b = e) (k : c = f) : Ending.returned (.tuple #[.int .i64 a, .int .i64 b, .int .i64 c]) = .returned (.tuple #[.int .i64 d, .int .i64 e, .int .i64 f]) := by rw [h, g, k]

theorem quo_neg {a b : Int} (h : a < 0) (hb : 1 ≤ b) : a.tmod b ≤ 0 ∧ -b < a.tmod b ∧ a ≤ a.tdiv b ∧ a.tdiv b ≤ 0 ∧ b * a.tdiv b + a.tmod b = a := by
  have e := Int.mul_tdiv_add_tmod a b
  have r0 : 0 ≤ (-a).tmod b := Int.tmod_nonneg _ (by omega)
  have r1 : (-a).tmod b < b := Int.tmod_lt_of_pos _ (by omega)
  have q0 : 0 ≤ (-a).tdiv b := Int.tdiv_nonneg (by omega) (by omega)
  have q1 : (-a).tdiv b ≤ -a := by
    rw [Int.tdiv_eq_ediv_of_nonneg (by omega)]
    exact Int.ediv_le_self _ (by omega)
  rw [Int.neg_tmod] at r0 r1
  rw [Int.neg_tdiv] at q0 q1
  exact ⟨by omega, by omega, by omega, by omega, e⟩
theorem quo_floor {a b : Int} (h : a < 0) (hb : 1 ≤ b) (r : a.tmod b < 0) : a / b = a.tdiv b - 1 ∧ a % b = a.tmod b + b ∧ -9223372036854775808 < a.tdiv b ∨ a < -9223372036854775808 := by
  obtain ⟨r0, r1, q0, q1, e⟩ := quo_neg h hb
  by_cases k : a < -9223372036854775808
  · exact Or.inr k
  · refine Or.inl ?_
    have u : a / b = a.tdiv b - 1 ∧ a % b = a.tmod b + b := (Int.ediv_emod_unique (by omega)).2 ⟨by rw [Int.mul_sub]; omega, by omega, by omega⟩
    refine ⟨u.1, u.2, ?_⟩
    by_cases z : a.tdiv b = a
    · have b1 : b = 1 := by
        rw [z] at e
        by_cases b2 : b = 1
        · exact b2
        · have := Int.mul_le_mul_of_nonpos_right (show 2 ≤ b by omega) (show a ≤ 0 by omega)
          omega
      subst b1
      omega
    · omega
theorem quo_exact {a b : Int} (h : a < 0) (hb : 1 ≤ b) (r : 0 ≤ a.tmod b) : a / b = a.tdiv b ∧ a % b = a.tmod b := by
  obtain ⟨r0, r1, q0, q1, e⟩ := quo_neg h hb
  exact (Int.ediv_emod_unique (by omega)).2 ⟨by omega, by omega, by omega⟩

def ceilS (a b : Int) : Int := if 0 < a % b then a / b + 1 else a / b
theorem ceilS_up {a b : Int} (h : 0 < a % b) : ceilS a b = a / b + 1 := by simp [ceilS, h]
theorem ceilS_eq {a b : Int} (h : ¬ 0 < a % b) : ceilS a b = a / b := by simp [ceilS, h]
theorem ceil_bd {a b : Int} (a0 : -9223372036854775808 ≤ a) (a1 : a ≤ 9223372036854775807) (b0 : 1 ≤ b) : -9223372036854775808 ≤ a / b ∧ a / b ≤ 9223372036854775807 ∧ (0 < a % b → a / b < 9223372036854775807) := by
  have e := Int.mul_ediv_add_emod a b
  have r0 : 0 ≤ a % b := Int.emod_nonneg _ (by omega)
  have r1 : a % b < b := Int.emod_lt_of_pos _ (by omega)
  by_cases h : 0 ≤ a
  · have q0 : 0 ≤ a / b := Int.ediv_nonneg h (by omega)
    have q1 : a / b ≤ a := Int.ediv_le_self _ h
    refine ⟨by omega, by omega, fun r => ?_⟩
    by_cases z : a / b = a
    · rw [z] at e
      by_cases b2 : b = 1
      · subst b2; omega
      · have := Int.mul_le_mul_of_nonneg_right (show 2 ≤ b by omega) h
        omega
    · omega
  · have q0 : a / b < 0 := Int.ediv_neg_of_neg_of_pos (by omega) (by omega)
    have q1 : a ≤ a / b := by
      rw [Int.le_ediv_iff_mul_le (by omega)]
      have := Int.mul_le_mul_of_nonpos_left (show a ≤ 0 by omega) b0
      omega
    exact ⟨by omega, by omega, fun _ => by omega⟩

theorem ret_u {a b : Int} (h : a = b) : Ending.returned (.int .u64 a) = .returned (.int .u64 b) := by rw [h]
theorem mag_wrap {a : Int} (a0 : -9223372036854775808 ≤ a) (h : a < 0) : IntKind.u64.wrap (-IntKind.u64.wrap a) = a.natAbs := by
  simp [IntKind.wrap, IntKind.signed, IntKind.bits]; omega
theorem abs_opp {a b : Int} (m : a < 0 ∧ 0 ≤ b ∨ 0 ≤ a ∧ b < 0) : (a.natAbs : Int) * b.natAbs = -(a * b) ∧ a * b ≤ 0 := by
  rcases m with ⟨h, k⟩ | ⟨h, k⟩
  · rw [show (a.natAbs : Int) = -a by omega, show (b.natAbs : Int) = b by omega]
    exact ⟨by rw [Int.neg_mul], Int.mul_nonpos_of_nonpos_of_nonneg (by omega) k⟩
  · rw [show (a.natAbs : Int) = a by omega, show (b.natAbs : Int) = -b by omega]
    exact ⟨by rw [Int.mul_neg], Int.mul_nonpos_of_nonneg_of_nonpos h (by omega)⟩
theorem abs_same {a b : Int} (m : ¬ (a < 0 ∧ 0 ≤ b ∨ 0 ≤ a ∧ b < 0)) : (a.natAbs : Int) * b.natAbs = a * b ∧ 0 ≤ a * b := by
  by_cases h : a < 0
  · rw [show (a.natAbs : Int) = -a by omega, show (b.natAbs : Int) = -b by omega]
    exact ⟨by rw [Int.neg_mul_neg], Int.mul_nonneg_of_nonpos_of_nonpos (by omega) (by omega)⟩
  · rw [show (a.natAbs : Int) = a by omega, show (b.natAbs : Int) = b by omega]
    exact ⟨rfl, Int.mul_nonneg (by omega) (by omega)⟩
theorem wrap_back {n : Int} (a0 : -9223372036854775808 ≤ n) (h : n ≤ 0) : wrap64 (IntKind.u64.wrap n) = n := by
  simp [wrap64, IntKind.wrap, IntKind.signed, IntKind.bits]; omega

theorem wrap_id {n : Int} (h : -9223372036854775808 ≤ n) (k : n ≤ 9223372036854775807) : wrap64 n = n := by unfold wrap64; omega
theorem test_pp {a b : Int} (hb : 0 < b) : 9223372036854775807 / b < a ↔ 9223372036854775807 < a * b := Int.ediv_lt_iff_lt_mul hb
theorem test_pn {a b : Int} (ha : 0 < a) : b < wrap64 (-Int.tdiv 9223372036854775808 a) ↔ a * b < -9223372036854775808 := by
  have e : Int.tdiv 9223372036854775808 a = 9223372036854775808 / a := Int.tdiv_eq_ediv_of_nonneg (by omega)
  have q0 : 0 ≤ 9223372036854775808 / a := Int.ediv_nonneg (by omega) (by omega)
  have q1 : 9223372036854775808 / a ≤ 9223372036854775808 := Int.ediv_le_self _ (by omega)
  rw [e, wrap_id (by omega) (by omega)]
  have t : 9223372036854775808 / a < -b ↔ 9223372036854775808 < -b * a := Int.ediv_lt_iff_lt_mul ha
  rw [Int.neg_mul, Int.mul_comm b a] at t
  omega
theorem test_nn {a b : Int} (hb : b < 0) : a < wrap64 (Int.tdiv 9223372036854775807 b) ↔ 9223372036854775807 < a * b := by
  have e : Int.tdiv 9223372036854775807 b = -(9223372036854775807 / (-b)) := by
    have := Int.tdiv_neg 9223372036854775807 (-b)
    have k : Int.tdiv 9223372036854775807 (-b) = 9223372036854775807 / (-b) := Int.tdiv_eq_ediv_of_nonneg (by omega)
    rw [Int.neg_neg, k] at this
    exact this
  have q0 : 0 ≤ 9223372036854775807 / (-b) := Int.ediv_nonneg (by omega) (by omega)
  have q1 : 9223372036854775807 / (-b) ≤ 9223372036854775807 := Int.ediv_le_self _ (by omega)
  rw [e, wrap_id (by omega) (by omega)]
  have t : 9223372036854775807 / (-b) < -a ↔ 9223372036854775807 < -a * -b := Int.ediv_lt_iff_lt_mul (by omega)
  rw [Int.neg_mul_neg] at t
  omega

theorem max_abs (a : Int) : max a (-a) = (a.natAbs : Int) := by omega
theorem mul_same_fit {a b : Int} (_ : ¬ a = 0) (zb : ¬ b = 0) (m : ¬ (a < 0 ∧ 0 ≤ b ∨ 0 ≤ a ∧ b < 0)) (t : max a (-a) ≤ 4611686018427387904 / max b (-b)) : wrap64 (max a (-a) * max b (-b)) = clip (a * b) := by
  rw [Int.le_ediv_iff_mul_le (by omega)] at t
  rw [max_abs, max_abs] at *
  obtain ⟨p1, p2⟩ := abs_same m
  rw [p1] at t ⊢
  rw [wrap_id (by omega) (by omega), clip_in (by omega) (by omega)]
theorem mul_same_over {a b : Int} (_ : ¬ a = 0) (zb : ¬ b = 0) (m : ¬ (a < 0 ∧ 0 ≤ b ∨ 0 ≤ a ∧ b < 0)) (t : 4611686018427387904 / max b (-b) < max a (-a)) : 4611686018427387904 = clip (a * b) := by
  rw [Int.ediv_lt_iff_lt_mul (by omega)] at t
  rw [max_abs, max_abs] at t
  obtain ⟨p1, p2⟩ := abs_same m
  rw [p1] at t
  rw [clip_hi (by omega)]
theorem mul_opp_fit {a b : Int} (_ : ¬ a = 0) (zb : ¬ b = 0) (m : a < 0 ∧ 0 ≤ b ∨ 0 ≤ a ∧ b < 0) (t : max a (-a) ≤ 4611686018427387904 / max b (-b)) : wrap64 (-wrap64 (max a (-a) * max b (-b))) = clip (a * b) := by
  rw [Int.le_ediv_iff_mul_le (by omega)] at t
  rw [max_abs, max_abs] at *
  obtain ⟨p1, p2⟩ := abs_opp m
  rw [p1] at t ⊢
  rw [wrap_id (n := -(a * b)) (by omega) (by omega), wrap_id (by omega) (by omega), clip_in (by omega) (by omega)]
  omega
theorem mul_opp_over {a b : Int} (_ : ¬ a = 0) (zb : ¬ b = 0) (m : a < 0 ∧ 0 ≤ b ∨ 0 ≤ a ∧ b < 0) (t : 4611686018427387904 / max b (-b) < max a (-a)) : -4611686018427387904 = clip (a * b) := by
  rw [Int.ediv_lt_iff_lt_mul (by omega)] at t
  rw [max_abs, max_abs] at t
  obtain ⟨p1, p2⟩ := abs_opp m
  rw [p1] at t
  rw [clip_lo (by omega)]
end Go.Proofs.Ytnhdcoolhbjmmaa
