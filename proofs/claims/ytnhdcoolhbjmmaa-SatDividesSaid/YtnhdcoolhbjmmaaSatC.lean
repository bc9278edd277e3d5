/- Contracts of magnitude, product, Times and Mul of package sat, and of the document's Times and Mul: what each call returns; nothing in memory that was there changes. -/
import Derived.Test.YtnhdcoolhbjmmaaSatB
import Derived.Test.YtnhdcoolhbjmmaaShelf
namespace Go.Proofs.Ytnhdcoolhbjmmaa
open Go.RowKit

theorem opp_t (a b : Int) (w : World) (h : a < 0 ∧ 0 ≤ b ∨ 0 ≤ a ∧ b < 0) :
    Calls Try.prog 36 #[.int .i64 a, .int .i64 b] w fun e w' => e = .returned (.bool true) ∧ w = w' := by
  rcases h with ⟨h, k⟩ | ⟨h, k⟩
  · have da : decide (a < 0) = true := by simp; omega
    have db : decide (b < 0) = false := by simp; omega
    go_enter Try.func36, Try.ntmps36
    go_wp2
    go_ret
    exact ⟨rfl, rfl⟩
  · have da : decide (a < 0) = false := by simp; omega
    have db : decide (b < 0) = true := by simp; omega
    go_enter Try.func36, Try.ntmps36
    go_wp2
    go_ret
    exact ⟨rfl, rfl⟩
theorem opp_f (a b : Int) (w : World) (h : a < 0 ∧ b < 0 ∨ 0 ≤ a ∧ 0 ≤ b) :
    Calls Try.prog 36 #[.int .i64 a, .int .i64 b] w fun e w' => e = .returned (.bool false) ∧ w = w' := by
  rcases h with ⟨h, k⟩ | ⟨h, k⟩
  · have da : decide (a < 0) = true := by simp; omega
    have db : decide (b < 0) = true := by simp; omega
    go_enter Try.func36, Try.ntmps36
    go_wp2
    go_ret
    exact ⟨rfl, rfl⟩
  · have da : decide (a < 0) = false := by simp; omega
    have db : decide (b < 0) = false := by simp; omega
    go_enter Try.func36, Try.ntmps36
    go_wp2
    go_ret
    exact ⟨rfl, rfl⟩

theorem mag_any (a : Int) (w : World) (a0 : -9223372036854775808 ≤ a) (a1 : a ≤ 9223372036854775807) :
    Calls Try.prog 40 #[.int .i64 a] w fun e w' => e = .returned (.int .u64 (a.natAbs : Nat)) ∧ w = w' := by
  by_cases h : a < 0
  · go_enter Try.func40, Try.ntmps40
    go_wp2
    go_ret
    exact ⟨ret_u (mag_wrap a0 h), rfl⟩
  · go_enter Try.func40, Try.ntmps40
    go_wp2
    go_ret
    exact ⟨ret_u (by omega), rfl⟩

theorem product_any (a b h l : Int) (w : World) (a0 : -9223372036854775808 ≤ a) (a1 : a ≤ 9223372036854775807) (b0 : -9223372036854775808 ≤ b) (b1 : b ≤ 9223372036854775807)
    (eh : (a.natAbs : Int) * b.natAbs / 18446744073709551616 = h) (el : (a.natAbs : Int) * b.natAbs % 18446744073709551616 = l) :
    Calls Try.prog 37 #[.int .i64 a, .int .i64 b] w fun e w' => e = .returned (.agg #[.int .u64 h, .int .u64 l]) ∧ Below w.heap.size w w' := by
  subst eh el
  go_enter Try.func37, Try.ntmps37
  go_wp2_with (first | (go_at_call 40; refine (mag_any _ _ (by omega) (by omega)).mono ?_; rintro e w' ⟨rfl, rfl⟩) | (go_at_call 39; refine (Try.bits_Mul64 _ _ (by omega) (by omega) _).mono ?_; rintro e w' ⟨rfl, rfl⟩))
  exact bodyPost_ret (v := .agg #[.int .u64 ((a.natAbs : Int) * b.natAbs / 18446744073709551616), .int .u64 ((a.natAbs : Int) * b.natAbs % 18446744073709551616)]) (by simp [results, Try.results37, go_sem]) rfl ⟨rfl, (Below.refl _ _).alloc (Nat.le_refl _) _⟩

theorem times_any (a b : Int) (w : World) (a0 : -9223372036854775808 ≤ a) (a1 : a ≤ 9223372036854775807) (b0 : -9223372036854775808 ≤ b) (b1 : b ≤ 9223372036854775807) :
    Calls Try.prog 23 #[.int .i64 a, .int .i64 b] w fun e w' => e = .returned (.tuple #[.int .i64 (valS (a * b)), .int .i64 (errS (a * b))]) ∧ Below w.heap.size w w' := by
  by_cases m : a < 0 ∧ 0 ≤ b ∨ 0 ≤ a ∧ b < 0
  · have p := abs_opp m
    generalize a * b = n at *
    obtain ⟨p1, p2⟩ := p
    by_cases f : -9223372036854775808 ≤ n
    · rw [valS_in (by omega) (by omega), errS_in (by omega) (by omega)]
      have EH : Hid ((a.natAbs : Int) * b.natAbs / 18446744073709551616 = 0) := Lib.hid (by rw [p1]; omega)
      have EL : Hid ((a.natAbs : Int) * b.natAbs % 18446744073709551616 = -n) := Lib.hid (by rw [p1]; omega)
      clear p1
      go_enter Try.func23, Try.ntmps23
      go_wp2_with (first | (go_at_call 36; refine (opp_t _ _ _ m).mono ?_; rintro e w' ⟨rfl, rfl⟩) | (go_at_call 37; refine (product_any _ _ 0 (-n) _ a0 a1 b0 b1 EH.out EL.out).mono ?_; rintro e w' ⟨rfl, hb⟩))
      go_ret2
      exact ⟨ret_two (wrap_back f p2) rfl, hb.alloc (by have := hb.size; omega) _⟩
    · rw [valS_lo (by omega), errS_lo (by omega)]
      by_cases g : -n < 18446744073709551616
      · have EH : Hid ((a.natAbs : Int) * b.natAbs / 18446744073709551616 = 0) := Lib.hid (by rw [p1]; omega)
        have EL : Hid ((a.natAbs : Int) * b.natAbs % 18446744073709551616 = -n) := Lib.hid (by rw [p1]; omega)
        clear p1
        go_enter Try.func23, Try.ntmps23
        go_wp2_with (first | (go_at_call 36; refine (opp_t _ _ _ m).mono ?_; rintro e w' ⟨rfl, rfl⟩) | (go_at_call 37; refine (product_any _ _ 0 (-n) _ a0 a1 b0 b1 EH.out EL.out).mono ?_; rintro e w' ⟨rfl, hb⟩))
        go_ret2
        exact ⟨rfl, hb.alloc (by have := hb.size; omega) _⟩
      · obtain ⟨h, eh, h0⟩ : ∃ h, (a.natAbs : Int) * b.natAbs / 18446744073709551616 = h ∧ 1 ≤ h := ⟨_, rfl, by rw [p1]; omega⟩
        obtain ⟨l, el⟩ : ∃ l, (a.natAbs : Int) * b.natAbs % 18446744073709551616 = l := ⟨_, rfl⟩
        have EH := Lib.hid eh
        have EL := Lib.hid el
        clear eh el p1
        have hz : (h == 0) = false := beq_eq_false_iff_ne.2 (by omega)
        go_enter Try.func23, Try.ntmps23
        go_wp2_with (first | (go_at_call 36; refine (opp_t _ _ _ m).mono ?_; rintro e w' ⟨rfl, rfl⟩) | (go_at_call 37; refine (product_any _ _ h l _ a0 a1 b0 b1 EH.out EL.out).mono ?_; rintro e w' ⟨rfl, hb⟩))
        go_ret2
        exact ⟨rfl, hb.alloc (by have := hb.size; omega) _⟩
  · have p := abs_same m
    have m : a < 0 ∧ b < 0 ∨ 0 ≤ a ∧ 0 ≤ b := by omega
    generalize a * b = n at *
    obtain ⟨p1, p2⟩ := p
    by_cases f : n ≤ 9223372036854775807
    · rw [valS_in (by omega) (by omega), errS_in (by omega) (by omega)]
      have EH : Hid ((a.natAbs : Int) * b.natAbs / 18446744073709551616 = 0) := Lib.hid (by rw [p1]; omega)
      have EL : Hid ((a.natAbs : Int) * b.natAbs % 18446744073709551616 = n) := Lib.hid (by rw [p1]; omega)
      clear p1
      go_enter Try.func23, Try.ntmps23
      go_wp2_with (first | (go_at_call 36; refine (opp_f _ _ _ m).mono ?_; rintro e w' ⟨rfl, rfl⟩) | (go_at_call 37; refine (product_any _ _ 0 (n) _ a0 a1 b0 b1 EH.out EL.out).mono ?_; rintro e w' ⟨rfl, hb⟩))
      go_ret2
      exact ⟨rfl, hb.alloc (by have := hb.size; omega) _⟩
    · rw [valS_hi (by omega), errS_hi (by omega)]
      by_cases g : n < 18446744073709551616
      · have EH : Hid ((a.natAbs : Int) * b.natAbs / 18446744073709551616 = 0) := Lib.hid (by rw [p1]; omega)
        have EL : Hid ((a.natAbs : Int) * b.natAbs % 18446744073709551616 = n) := Lib.hid (by rw [p1]; omega)
        clear p1
        go_enter Try.func23, Try.ntmps23
        go_wp2_with (first | (go_at_call 36; refine (opp_f _ _ _ m).mono ?_; rintro e w' ⟨rfl, rfl⟩) | (go_at_call 37; refine (product_any _ _ 0 (n) _ a0 a1 b0 b1 EH.out EL.out).mono ?_; rintro e w' ⟨rfl, hb⟩))
        go_ret2
        exact ⟨rfl, hb.alloc (by have := hb.size; omega) _⟩
      · obtain ⟨h, eh, h0⟩ : ∃ h, (a.natAbs : Int) * b.natAbs / 18446744073709551616 = h ∧ 1 ≤ h := ⟨_, rfl, by rw [p1]; omega⟩
        obtain ⟨l, el⟩ : ∃ l, (a.natAbs : Int) * b.natAbs % 18446744073709551616 = l := ⟨_, rfl⟩
        have EH := Lib.hid eh
        have EL := Lib.hid el
        clear eh el p1
        have hz : (h == 0) = false := beq_eq_false_iff_ne.2 (by omega)
        go_enter Try.func23, Try.ntmps23
        go_wp2_with (first | (go_at_call 36; refine (opp_f _ _ _ m).mono ?_; rintro e w' ⟨rfl, rfl⟩) | (go_at_call 37; refine (product_any _ _ h l _ a0 a1 b0 b1 EH.out EL.out).mono ?_; rintro e w' ⟨rfl, hb⟩))
        go_ret2
        exact ⟨rfl, hb.alloc (by have := hb.size; omega) _⟩
end Go.Proofs.Ytnhdcoolhbjmmaa
