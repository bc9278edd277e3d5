/- Contracts of Pow, of package sat and of the document's: for exponents below 0 it is 0, else the power of the clipped number, clipped. -/
import Derived.Test.YtnhdcoolhbjmmaaSatF
import Derived.Test.YtnhdcoolhbjmmaaSatPow
namespace Go.Proofs.Ytnhdcoolhbjmmaa
open Go.ChangeShapes Go.RowKit

theorem len_any (x : Int) (w : World) (h0 : 0 ≤ x) (h1 : x ≤ 18446744073709551615) :
    Calls Try.prog 38 #[.int .u64 x] w fun e w' => e = .returned (.int .i64 (lenS x)) ∧ w = w' :=
  (Try.bits_Len64 x w h0 h1).mono fun _ _ ⟨h, k⟩ => ⟨h, k.symm⟩
theorem mulP_any (a b c : Int) (hc : mulS a b = c) (w : World) :
    Calls Try.prog 25 #[.int .i64 a, .int .i64 b] w fun e w' => e = .returned (.int .i64 c) ∧ Below w.heap.size w w' := by
  subst hc; exact mul_any a b w

theorem pow_any (a n : Int) (w : World) (h1 : n ≤ 9223372036854775807) :
    Calls Try.prog 31 #[.int .i64 a, .int .i64 n] w fun e w' => e = .returned (.int .i64 (powS a n)) ∧ Below w.heap.size w w' := by
  by_cases h : n < 0
  · rw [powS_neg h]
    go_enter Try.func31, Try.ntmps31
    go_wp2
    go_ret
    exact ⟨rfl, Below.refl _ _⟩
  · have h : 0 ≤ n := by omega
    rw [powS_pos h]
    have hl := lenS_le n h1
    go_enter Try.func31, Try.ntmps31
    go_wp2_with (first | (go_at_call 16; refine (clip_any _ _).mono ?_; rintro e w' ⟨rfl, rfl⟩) | (go_at_call 38; refine (len_any _ _ (by omega) (by omega)).mono ?_; rintro e w' ⟨rfl, rfl⟩))
    go_loopw [5, 6, 15] (fun p s i wr => ∃ k : Nat, k ≤ lenS n ∧ i = .int .i64 k ∧ p = .int .i64 (clip (clip a ^ (n.toNat % 2 ^ k))) ∧ s = .int .i64 (clip (clip a ^ (2 ^ k))) ∧ Below w.heap.size w wr) (fun _ _ i _ => lenS n - (intOf i).toNat)
    case atStart => exact ⟨0, Nat.zero_le _, rfl, by simp [Nat.mod_one]; decide, by rw [Nat.pow_zero, Int.pow_one, clip_clip], Below.refl _ _⟩
    case round =>
      obtain ⟨k, hk, rfl, rfl, rfl, hb⟩ := hrel
      by_cases hlt : k < lenS n
      · have M := Lib.hid (mod_step n k)
        have S2 := Lib.hid (mulS_pow (clip a) (2 ^ k) (2 ^ k))
        have hbs := hb.size
        by_cases hv : bitAt n k = 1
        · obtain ⟨T1, T2⟩ := bit_yes h h1 (k := k) (by omega) hv
          have HV := Lib.hid hv
          have S1 := Lib.hid (mulS_pow (clip a) (n.toNat % 2 ^ k) (2 ^ k))
          clear hv
          go_wp2_with fail
          refine (mulP_any _ _ _ S1.out _).mono ?_
          rintro e w1 ⟨rfl, hb1⟩
          go_wp2_with fail
          refine (mulP_any _ _ _ S2.out _).mono ?_
          rintro e w2 ⟨rfl, hb2⟩
          go_wp2_with fail
          go_roundw
          case rel => exact ⟨k + 1, by omega, by go_num, by rw [M.out, HV.out, Nat.mul_one], by rw [Nat.pow_succ, Nat.mul_two], hb.trans ((hb1.mono (by omega)).trans (hb2.mono (by have := hb1.size; omega)))⟩
          case measure => simp [intOf]; omega
        · have hv : bitAt n k = 0 := by have := bitAt_lt n k; omega
          obtain ⟨T1, T2⟩ := bit_no h h1 (k := k) (by omega) hv
          have HV := Lib.hid hv
          clear hv
          go_wp2_with fail
          refine (mulP_any _ _ _ S2.out _).mono ?_
          rintro e w2 ⟨rfl, hb2⟩
          go_wp2_with fail
          go_roundw
          case rel => exact ⟨k + 1, by omega, by go_num, by rw [M.out, HV.out, Nat.mul_zero, Nat.add_zero], by rw [Nat.pow_succ, Nat.mul_two], hb.trans (hb2.mono (by omega))⟩
          case measure => simp [intOf]; omega
      · go_wp2_with fail
        go_ret
        exact ⟨ret_int (by rw [show k = lenS n by omega, Nat.mod_eq_of_lt (lenS_lt n h1)]), hb⟩

theorem mulRP_any (a b c : Int) (hc : mulS a b = c) (w : World) :
    Calls Try.prog 26 #[.int .i64 a, .int .i64 b] w fun e w' => e = .returned (.int .i64 c) ∧ w = w' := by
  subst hc; exact mulR_any a b w

theorem powR_any (a n : Int) (w : World) (h1 : n ≤ 9223372036854775807) :
    Calls Try.prog 32 #[.int .i64 a, .int .i64 n] w fun e w' => e = .returned (.int .i64 (powS a n)) ∧ w = w' := by
  by_cases h : n < 0
  · rw [powS_neg h]
    go_enter Try.func32, Try.ntmps32
    go_wp2
    go_ret
    exact ⟨rfl, rfl⟩
  · have h : 0 ≤ n := by omega
    rw [powS_pos h]
    by_cases f : n ≤ 100
    · go_enter Try.func32, Try.ntmps32
      go_wp2
      go_loop [5, 6] (fun p i => ∃ k : Nat, k ≤ n.toNat ∧ i = .int .i64 k ∧ p = .int .i64 (clip (clip a ^ k))) (fun _ i => n.toNat - (intOf i).toNat)
      case atStart => exact ⟨0, Nat.zero_le _, rfl, by rw [Int.pow_zero]; rfl⟩
      case round =>
        obtain ⟨k, hk, rfl, rfl⟩ := hrel
        by_cases hlt : k < n.toNat
        · have S := Lib.hid (mulS_pow_one a k)
          go_wp2_with (go_at_call 26; refine (mulRP_any _ _ _ S.out _).mono ?_; rintro e w' ⟨rfl, rfl⟩)
          go_round
          case rel => exact ⟨k + 1, by omega, by go_num, rfl⟩
          case measure => simp [intOf]; omega
        · go_wp2
          go_ret
          exact ⟨ret_int (by rw [show k = n.toNat by omega]), rfl⟩
    · go_enter Try.func32, Try.ntmps32
      go_wp2
      go_loop [5, 6] (fun p i => ∃ k : Nat, k ≤ (100 + n % 2).toNat ∧ i = .int .i64 k ∧ p = .int .i64 (clip (clip a ^ k))) (fun _ i => (100 + n % 2).toNat - (intOf i).toNat)
      case atStart => exact ⟨0, Nat.zero_le _, rfl, by rw [Int.pow_zero]; rfl⟩
      case round =>
        obtain ⟨k, hk, rfl, rfl⟩ := hrel
        by_cases hlt : k < (100 + n % 2).toNat
        · have S := Lib.hid (mulS_pow_one a k)
          go_wp2_with (go_at_call 26; refine (mulRP_any _ _ _ S.out _).mono ?_; rintro e w' ⟨rfl, rfl⟩)
          go_round
          case rel => exact ⟨k + 1, by omega, by go_num, rfl⟩
          case measure => simp [intOf]; omega
        · go_wp2
          go_ret
          exact ⟨ret_int (by rw [show k = (100 + n % 2).toNat by omega]; exact pow_same _ _ _ (by omega) (by omega) (by omega)), rfl⟩
end Go.Proofs.Ytnhdcoolhbjmmaa
