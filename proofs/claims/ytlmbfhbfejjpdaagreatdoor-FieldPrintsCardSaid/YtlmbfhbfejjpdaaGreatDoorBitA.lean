/- Contracts of below, exists, only, Inside, Has, of package bits and of the document's: what each call returns; the world stays. -/
import Derived.Test.YtlmbfhbfejjpdaaGreatDoorProg
import Derived.Test.YtlmbfhbfejjpdaaGreatDoorBitMath
import Derived.WalkKit
import Derived.ProofKit
import Derived.Lib.Hide
import Derived.Laws.Shifts
import Derived.Laws.BitsAllLaws
namespace Go.Proofs.YtlmbfhbfejjpdaaGreatDoor
open Go.RowKit

theorem ret_int {k : IntKind} {a b : Int} (h : a = b) : Ending.returned (.int k a) = .returned (.int k b) := by rw [h]
theorem ret_bool {a b : Bool} (h : a = b) : Ending.returned (.bool a) = .returned (.bool b) := by rw [h]

/-! numbers -/
theorem wrap_pow {k : Nat} (h : k < 64) : IntKind.u64.wrap ((2 : Int) ^ k) = ((2 ^ k : Nat) : Int) := by
  have e : ((2 : Int) ^ k) = ((2 ^ k : Nat) : Int) := by simp
  have b := Bit.one_lt h
  rw [e, IntKind.wrap_u64]
  generalize 2 ^ k = m at b
  omega
/-- the set of the numbers below v -/
def low (v : Int) : Nat := 2 ^ (min v.toNat 64) - 1
theorem low_lt (v : Int) : low v < 2 ^ 64 := by
  unfold low
  have := Nat.pow_le_pow_right (n := 2) (by decide) (Nat.min_le_right v.toNat 64)
  have := Nat.two_pow_pos (min v.toNat 64)
  omega
theorem low_bit (v : Int) (j : Nat) : (low v).testBit j = decide (j < 64 ∧ (j : Int) < v) := by
  unfold low
  rw [Nat.testBit_two_pow_sub_one]
  congr 1
  apply propext
  omega
/-- without the numbers below v -/
def from_ (S : Nat) (v : Int) : Nat := S &&& (18446744073709551615 - low v)
theorem not_bit {T : Nat} (hT : T < 2 ^ 64) (j : Nat) : (18446744073709551615 - T).testBit j = (decide (j < 64) && !T.testBit j) := by
  have e : 18446744073709551615 - T = 2 ^ 64 - (T + 1) := by omega
  rw [e, Nat.testBit_two_pow_sub_succ hT]
theorem set_hi {S : Nat} (hS : S < 2 ^ 64) {j : Nat} (h : S.testBit j = true) : j < 64 := by
  by_cases c : j < 64
  · exact c
  · rw [Nat.testBit_lt_two_pow (Nat.lt_of_lt_of_le hS (Nat.pow_le_pow_right (by decide) (by omega)))] at h
    cases h
theorem from_bit {S : Nat} (hS : S < 2 ^ 64) (v : Int) (j : Nat) : (from_ S v).testBit j = (S.testBit j && decide (v ≤ j)) := by
  unfold from_
  rw [Nat.testBit_and, not_bit (low_lt v), low_bit]
  by_cases c : S.testBit j = true
  · have := set_hi hS c
    rw [c]
    by_cases d : (j : Int) < v
    · have d' : ¬ v ≤ j := by omega
      simp [d, d', this]
    · have d' : v ≤ j := by omega
      simp [d, d', this]
  · have c : S.testBit j = false := by simpa using c
    rw [c]; rfl
theorem from_lt {S : Nat} (hS : S < 2 ^ 64) (v : Int) : from_ S v < 2 ^ 64 := Nat.lt_of_le_of_lt Nat.and_le_left hS
/-- the numbers below v alone -/
def upto (S : Nat) (v : Int) : Nat := S &&& low v
theorem upto_bit {S : Nat} (hS : S < 2 ^ 64) (v : Int) (j : Nat) : (upto S v).testBit j = (S.testBit j && decide ((j : Int) < v)) := by
  unfold upto
  rw [Nat.testBit_and, low_bit]
  by_cases c : S.testBit j = true
  · have := set_hi hS c
    rw [c]
    simp [this]
  · have c : S.testBit j = false := by simpa using c
    rw [c]; rfl
theorem upto_lt {S : Nat} (hS : S < 2 ^ 64) (v : Int) : upto S v < 2 ^ 64 := Nat.lt_of_le_of_lt Nat.and_le_left hS

/-! below, exists, only -/
theorem below_neg (v : Int) (w : World) (h : v ≤ 0) :
    Calls Tryz.prog 49 #[.int .i64 v] w fun e w' => e = .returned (.int .u64 0) ∧ w = w' := by
  by_cases c : v = 0
  · subst c
    go_enter Tryz.func49, Tryz.ntmps49
    go_wp2
    go_ret; exact ⟨rfl, rfl⟩
  · have h' : v < 0 := by omega
    clear h c
    go_enter Tryz.func49, Tryz.ntmps49
    go_wp2
    go_ret; exact ⟨rfl, rfl⟩
theorem below_mid (v : Int) (w : World) (h : 0 < v) (h1 : v < 64) :
    Calls Tryz.prog 49 #[.int .i64 v] w fun e w' => e = .returned (.int .u64 ((2 ^ v.toNat - 1 : Nat) : Int)) ∧ w = w' := by
  go_enter Tryz.func49, Tryz.ntmps49
  go_wp2
  go_ret
  refine ⟨ret_int ?_, rfl⟩
  have k : v.toNat < 64 := by omega
  rw [wrap_pow k, IntKind.wrap_u64]
  have := Bit.one_lt k
  have := Nat.two_pow_pos v.toNat
  omega
theorem below_big (v : Int) (w : World) (h : 64 ≤ v) (h1 : v ≤ 9223372036854775807) :
    Calls Tryz.prog 49 #[.int .i64 v] w fun e w' => e = .returned (.int .u64 18446744073709551615) ∧ w = w' := by
  have h0 : 0 ≤ v := by omega
  have hm : min v.toNat 64 = 64 := by omega
  have hm' : min v.toNat IntKind.u64.bits = 64 := hm
  go_enter Tryz.func49, Tryz.ntmps49
  go_wp2
  go_ret
  exact ⟨rfl, rfl⟩
theorem below_any (v : Int) (w : World) (h1 : v ≤ 9223372036854775807) :
    Calls Tryz.prog 49 #[.int .i64 v] w fun e w' => e = .returned (.int .u64 (low v : Nat)) ∧ w = w' := by
  by_cases a : v ≤ 0
  · have e : low v = 0 := by unfold low; rw [show min v.toNat 64 = 0 by omega]
    rw [e]; exact below_neg v w a
  · by_cases b : v < 64
    · have e : low v = 2 ^ v.toNat - 1 := by unfold low; rw [show min v.toNat 64 = v.toNat by omega]
      rw [e]; exact below_mid v w (by omega) b
    · have e : low v = 18446744073709551615 := by unfold low; rw [show min v.toNat 64 = 64 by omega]
      rw [e]; exact below_big v w (by omega) h1
theorem exists_t (v : Int) (w : World) (h0 : 0 ≤ v) (h1 : v < 64) :
    Calls Tryz.prog 55 #[.int .i64 v] w fun e w' => e = .returned (.bool true) ∧ w = w' := by
  go_enter Tryz.func55, Tryz.ntmps55
  go_wp2
  go_ret
  exact ⟨rfl, rfl⟩
theorem exists_f (v : Int) (w : World) (h : v < 0 ∨ 64 ≤ v) :
    Calls Tryz.prog 55 #[.int .i64 v] w fun e w' => e = .returned (.bool false) ∧ w = w' := by
  rcases h with h | h
  · have d : decide (0 ≤ v) = false := by simp; omega
    go_enter Tryz.func55, Tryz.ntmps55
    go_wp2
    go_ret
    exact ⟨rfl, rfl⟩
  · have d0 : decide (0 ≤ v) = true := by simp; omega
    have d : decide (v < 64) = false := by simp; omega
    go_enter Tryz.func55, Tryz.ntmps55
    go_wp2
    go_ret
    exact ⟨rfl, rfl⟩
theorem only_any (v : Nat) (w : World) (h : v < 64) :
    Calls Tryz.prog 56 #[.int .i64 v] w fun e w' => e = .returned (.int .u64 ((2 ^ v : Nat) : Int)) ∧ w = w' := by
  go_enter Tryz.func56, Tryz.ntmps56
  go_wp2
  go_ret
  exact ⟨ret_int (wrap_pow h), rfl⟩

/-! Inside -/
/-- are all numbers of A in B? -/
def subB (A B : Nat) : Bool := decide (A &&& B = A)
theorem sub_all {A B : Nat} (hA : A < 2 ^ 64) : subB A B = true ↔ ∀ j, j < 64 → A.testBit j = true → B.testBit j = true := by
  unfold subB
  rw [decide_eq_true_iff]
  constructor
  · intro h j hj ha
    rw [← h, Nat.testBit_and, Bool.and_eq_true] at ha
    exact ha.2
  · intro h
    apply Bit.ext64 (Nat.lt_of_le_of_lt Nat.and_le_left hA) hA
    intro j hj
    rw [Nat.testBit_and]
    by_cases c : A.testBit j = true
    · rw [h j hj c]; simp
    · have c : A.testBit j = false := by simpa using c
      rw [c]; rfl
theorem sub_iff {A B : Nat} (hA : A < 2 ^ 64) (hB : B < 2 ^ 64) : A &&& (18446744073709551615 - B) = 0 ↔ subB A B = true := by
  rw [sub_all hA]
  constructor
  · intro h j hj ha
    have : (A &&& (18446744073709551615 - B)).testBit j = false := by rw [h]; exact Nat.zero_testBit j
    rw [Nat.testBit_and, not_bit hB, ha] at this
    simpa [hj] using this
  · intro h
    apply Bit.ext64 (Nat.lt_of_le_of_lt Nat.and_le_left hA) (by decide)
    intro j hj
    rw [Nat.testBit_and, not_bit hB, Nat.zero_testBit]
    by_cases c : A.testBit j = true
    · rw [h j hj c]; simp
    · have c : A.testBit j = false := by simpa using c
      rw [c]; rfl
theorem sub_iff' {A B : Nat} : A &&& B = A ↔ subB A B = true := by
  unfold subB
  rw [decide_eq_true_iff]
theorem inside_any (A B : Nat) (w : World) (hA : A < 2 ^ 64) (hB : B < 2 ^ 64) :
    Calls Tryz.prog 29 #[.int .u64 A, .int .u64 B] w fun e w' => e = .returned (.bool (subB A B)) ∧ w = w' := by
  have k := sub_iff hA hB
  have e : bits .andNot .u64 (A : Int) (B : Int) = ((A &&& (18446744073709551615 - B) : Nat) : Int) := u64_andNot_nat A B hA hB
  have d : ((A &&& (18446744073709551615 - B) : Nat) == 0) = subB A B := by
    cases hs : subB A B with
    | true => rw [hs] at k; simpa using k
    | false => rw [hs] at k; simpa using k
  obtain ⟨z, hz⟩ : ∃ z, A &&& (18446744073709551615 - B) = z := ⟨_, rfl⟩
  rw [hz] at e d
  have d' : (((z : Nat) : Int) == 0) = subB A B := by rw [← d]; cases z <;> simp <;> omega
  obtain ⟨t, ht⟩ : ∃ t, subB A B = t := ⟨_, rfl⟩
  rw [ht] at d' ⊢
  clear k d hz ht
  go_enter Tryz.func29, Tryz.ntmps29
  go_wp2
  go_ret
  exact ⟨rfl, rfl⟩
def hasB (S : Nat) (v : Int) : Bool := decide (0 ≤ v ∧ v < 64) && S.testBit v.toNat
theorem has_nat {S : Nat} (hS : S < 2 ^ 64) (j : Nat) : hasB S j = S.testBit j := by
  unfold hasB
  by_cases c : S.testBit j = true
  · have := set_hi hS c
    have d : (0 ≤ (j : Int) ∧ (j : Int) < 64) := by omega
    simp [d, c]
  · have c : S.testBit j = false := by simpa using c
    simp [c]
theorem sub_one {S v : Nat} (h : v < 64) : subB (2 ^ v) S = S.testBit v := by
  have k := sub_all (B := S) (Bit.one_lt h)
  by_cases c : S.testBit v = true
  · rw [c, k]
    intro j _ hj
    rw [Bit.bit_one] at hj
    have : v = j := by simpa using hj
    rw [← this]; exact c
  · have e : ¬ subB (2 ^ v) S = true := by
      rw [k]
      intro q
      exact c (q v h (by rw [Bit.bit_one]; simp))
    have c : S.testBit v = false := by simpa using c
    rw [c]
    simpa using e
theorem has_any (S : Nat) (v : Int) (w : World) (hS : S < 2 ^ 64) :
    Calls Tryz.prog 45 #[.int .u64 S, .int .i64 v] w fun e w' => e = .returned (.bool (hasB S v)) ∧ w = w' := by
  by_cases c : 0 ≤ v ∧ v < 64
  · obtain ⟨n, rfl⟩ := Int.eq_ofNat_of_zero_le c.1
    have n64 : n < 64 := by omega
    have X := Lib.hid (fun w => exists_t (n : Int) w c.1 c.2)
    have O := Lib.hid (fun w => only_any n w n64)
    have I := Lib.hid (fun w => inside_any (2 ^ n) S w (Bit.one_lt n64) hS)
    have E : hasB S n = subB (2 ^ n) S := by rw [sub_one n64, has_nat hS]
    obtain ⟨t, ht⟩ : ∃ t, subB (2 ^ n) S = t := ⟨_, rfl⟩
    obtain ⟨m, hm⟩ : ∃ m : Nat, 2 ^ n = m := ⟨_, rfl⟩
    rw [E, ht]
    rw [ht, hm] at I
    rw [hm] at O
    clear E ht c n64 hm
    go_enter Tryz.func45, Tryz.ntmps45
    go_wp2_with fail
    refine (X.out _).mono ?_
    rintro e w1 ⟨rfl, rfl⟩
    go_wp2_with fail
    refine (O.out _).mono ?_
    rintro e w1 ⟨rfl, rfl⟩
    go_wp2_with fail
    refine (I.out _).mono ?_
    rintro e w1 ⟨rfl, rfl⟩
    go_wp2_with fail
    go_ret
    exact ⟨rfl, rfl⟩
  · have E : hasB S v = false := by unfold hasB; simp [c]
    have X := Lib.hid (fun w => exists_f v w (by omega))
    rw [E]
    clear E c
    go_enter Tryz.func45, Tryz.ntmps45
    go_wp2_with fail
    refine (X.out _).mono ?_
    rintro e w1 ⟨rfl, rfl⟩
    go_wp2_with fail
    go_ret
    exact ⟨rfl, rfl⟩
theorem hasR_any (S : Nat) (v : Int) (w : World) (hS : S < 2 ^ 64) :
    Calls Tryz.prog 76 #[.int .u64 S, .int .i64 v] w fun e w' => e = .returned (.bool (hasB S v)) ∧ w = w' := by
  by_cases c : 0 ≤ v ∧ v < 64
  · obtain ⟨n, rfl⟩ := Int.eq_ofNat_of_zero_le c.1
    have n64 : n < 64 := by omega
    have d0 : decide (0 ≤ (n : Int)) = true := by simp
    have d1 : decide ((n : Int) ≤ 63) = true := by simp; omega
    have n0 : (0 : Int) ≤ n := by omega
    have q : (S : Int) / 2 ^ n = ((S / 2 ^ n : Nat) : Int) := by simp
    have q1 : S / 2 ^ n < 2 ^ 64 := Nat.lt_of_le_of_lt (Nat.div_le_self _ _) hS
    have r : (bits .and .u64 ((S : Int) / 2 ^ n) 1 == 1) = S.testBit n := by
      rw [q, show bits .and .u64 ((S / 2 ^ n : Nat) : Int) 1 = ((S / 2 ^ n &&& 1 : Nat) : Int) from u64_and_nat (S / 2 ^ n) 1 q1 (by decide), Nat.and_one_is_mod, Nat.testBit_eq_decide_div_mod_eq]
      clear q q1
      generalize S / 2 ^ n = z
      by_cases c : z % 2 = 1
      · simp [c]
      · have : z % 2 = 0 := by omega
        simp [this]
    rw [has_nat hS n]
    have R := Lib.hid r
    clear r q q1 c
    go_enter Tryz.func76, Tryz.ntmps76
    go_wp2
    go_ret
    exact ⟨ret_bool R.out, rfl⟩
  · have E : hasB S v = false := by unfold hasB; simp [c]
    rw [E]
    by_cases k : 0 ≤ v
    · have d1 : decide (v ≤ 63) = false := by simp; omega
      clear E c
      go_enter Tryz.func76, Tryz.ntmps76
      go_wp2
      go_ret
      exact ⟨rfl, rfl⟩
    · have d1 : decide (0 ≤ v) = false := by simp; omega
      clear E c
      go_enter Tryz.func76, Tryz.ntmps76
      go_wp2
      go_ret
      exact ⟨rfl, rfl⟩
end Go.Proofs.YtlmbfhbfejjpdaaGreatDoor
