/- Contracts of the document's Turn, and of Range, of package bits and of the document's; the world stays. -/
import Derived.Test.YtlmbfhbfejjpdaaGreatDoorBitD
namespace Go.Proofs.YtlmbfhbfejjpdaaGreatDoor
open Go.ChangeShapes Go.RowKit

theorem ret_sr {a a' : Int} {r : Int} (h : a = a') : Ending.returned (.tuple #[.int .u64 a, .int .i64 r]) = .returned (.tuple #[.int .u64 a', .int .i64 r]) := by rw [h]

/-- what Range returns: the set, or the error -/
def IsRange (lo hi st : Int) (s : Nat) (r : Int) : Prop :=
  (¬ (0 ≤ lo ∧ lo < 64 ∧ 0 ≤ hi ∧ hi < 64) ∧ s = 0 ∧ r = 3) ∨
  (0 ≤ lo ∧ lo < 64 ∧ 0 ≤ hi ∧ hi < 64 ∧ (hi < lo ∨ st < 1) ∧ s = 0 ∧ r = 2) ∨
  ∃ l h t : Nat, lo = l ∧ hi = h ∧ st = t ∧ l ≤ h ∧ h < 64 ∧ 1 ≤ t ∧ s = Bit.rangeS l h t ∧ r = 0
theorem isRange_ex (lo hi st : Int) : ∃ s r, IsRange lo hi st s r := by
  by_cases a : 0 ≤ lo ∧ lo < 64 ∧ 0 ≤ hi ∧ hi < 64
  · obtain ⟨a0, a1, a2, a3⟩ := a
    by_cases b : hi < lo ∨ st < 1
    · exact ⟨_, _, .inr (.inl ⟨a0, a1, a2, a3, b, rfl, rfl⟩)⟩
    · obtain ⟨l, rfl⟩ := Int.eq_ofNat_of_zero_le a0
      obtain ⟨h, rfl⟩ := Int.eq_ofNat_of_zero_le a2
      obtain ⟨t, rfl⟩ := Int.eq_ofNat_of_zero_le (show 0 ≤ st by omega)
      exact ⟨_, _, .inr (.inr ⟨l, h, t, rfl, rfl, rfl, by omega, by omega, by omega, rfl, rfl⟩)⟩
  · exact ⟨_, _, .inl ⟨a, rfl, rfl⟩⟩
theorem IsRange.lt {lo hi st : Int} {s : Nat} {r : Int} (h : IsRange lo hi st s r) : s < 2 ^ 64 := by
  rcases h with ⟨_, rfl, _⟩ | ⟨_, _, _, _, _, rfl, _⟩ | ⟨l, h, t, _, _, _, a, b, c, rfl, _⟩
  · decide
  · decide
  · exact Bit.rangeS_lt a c b
/-- a step of 64 leaves the first number alone, as all greater ones do -/
theorem range_big {l h t : Nat} (a : l ≤ h) (b : h < 64) (c : 64 ≤ t) : Bit.rangeS l h t = Bit.rangeS l h 64 := by
  have e : ∀ q, 64 ≤ q → (h - l) / q = 0 := fun q hq => Nat.div_eq_of_lt (by omega)
  unfold Bit.rangeS
  rw [e t c, e 64 (by omega)]
  simp [Bit.nums]
/-- the set of the first k numbers of a range -/
def part (l t k : Nat) : Nat := Bit.ofL 0 (Bit.nums l t k)
theorem part_zero (l t : Nat) : part l t 0 = 0 := rfl
theorem part_succ (l t k : Nat) : part l t (k + 1) = part l t k ||| 2 ^ (l + k * t) := by
  unfold part Bit.ofL Bit.nums
  rw [List.range_succ, List.map_append, List.foldl_append]
  rfl
theorem part_lt {l h t k : Nat} (hk : k = 0 ∨ l + (k - 1) * t ≤ h) (b : h < 64) : part l t k < 2 ^ 64 := by
  apply Bit.ofL_lt _ _ (by decide)
  intro v hv
  obtain ⟨j, hj, rfl⟩ := Bit.nums_mem.1 hv
  have : j * t ≤ (k - 1) * t := Nat.mul_le_mul_right t (by omega)
  omega
theorem range_bad1 (lo hi st : Int) (w : World) (h : ¬ (0 ≤ lo ∧ lo < 64 ∧ 0 ≤ hi ∧ hi < 64)) :
    Calls Tryz.prog 35 #[.int .i64 lo, .int .i64 hi, .int .i64 st] w fun e w' => e = .returned (.tuple #[.int .u64 0, .int .i64 3]) ∧ w = w' := by
  by_cases a : 0 ≤ lo ∧ lo < 64
  · have A := Lib.hid (fun w => exists_t lo w a.1 a.2)
    have B := Lib.hid (fun w => exists_f hi w (by omega))
    clear h a
    go_enter Tryz.func35, Tryz.ntmps35
    go_wp2_with fail
    refine (A.out _).mono ?_
    rintro e w1 ⟨rfl, rfl⟩
    go_wp2_with fail
    refine (B.out _).mono ?_
    rintro e w1 ⟨rfl, rfl⟩
    go_wp2_with fail
    go_ret2
    exact ⟨rfl, rfl⟩
  · have A := Lib.hid (fun w => exists_f lo w (by omega))
    clear h a
    go_enter Tryz.func35, Tryz.ntmps35
    go_wp2_with fail
    refine (A.out _).mono ?_
    rintro e w1 ⟨rfl, rfl⟩
    go_wp2_with fail
    go_ret2
    exact ⟨rfl, rfl⟩
theorem range_bad2 (lo hi st : Int) (w : World) (a0 : 0 ≤ lo) (a1 : lo < 64) (b0 : 0 ≤ hi) (b1 : hi < 64) (h : hi < lo ∨ st < 1) :
    Calls Tryz.prog 35 #[.int .i64 lo, .int .i64 hi, .int .i64 st] w fun e w' => e = .returned (.tuple #[.int .u64 0, .int .i64 2]) ∧ w = w' := by
  have A := Lib.hid (fun w => exists_t lo w a0 a1)
  have B := Lib.hid (fun w => exists_t hi w b0 b1)
  by_cases c : hi < lo
  · have d : decide (hi < lo) = true := by simpa using c
    clear h c
    go_enter Tryz.func35, Tryz.ntmps35
    go_wp2_with fail
    refine (A.out _).mono ?_
    rintro e w1 ⟨rfl, rfl⟩
    go_wp2_with fail
    refine (B.out _).mono ?_
    rintro e w1 ⟨rfl, rfl⟩
    go_wp2_with fail
    go_ret2
    exact ⟨rfl, rfl⟩
  · have d : decide (hi < lo) = false := by simpa using c
    have d1 : decide (st < 1) = true := by simp; omega
    clear h c
    go_enter Tryz.func35, Tryz.ntmps35
    go_wp2_with fail
    refine (A.out _).mono ?_
    rintro e w1 ⟨rfl, rfl⟩
    go_wp2_with fail
    refine (B.out _).mono ?_
    rintro e w1 ⟨rfl, rfl⟩
    go_wp2_with fail
    go_ret2
    exact ⟨rfl, rfl⟩
theorem range_good (l h : Nat) (st : Int) (t : Nat) (w : World) (a : l ≤ h) (b : h < 64) (c : 1 ≤ t) (ht : min st 64 = t) (t64 : t ≤ 64) :
    Calls Tryz.prog 35 #[.int .i64 l, .int .i64 h, .int .i64 st] w fun e w' => e = .returned (.tuple #[.int .u64 (Bit.rangeS l h t : Nat), .int .i64 0]) ∧ w = w' := by
  have A := Lib.hid (fun w => exists_t (l : Int) w (by omega) (by omega))
  have B := Lib.hid (fun w => exists_t (h : Int) w (by omega) (by omega))
  have O := Lib.hid (fun (v : Nat) w (h : v < 64) => only_any v w h)
  have d : decide ((h : Int) < l) = false := by simp; omega
  have d0 : decide (h < l) = false := by simp; omega
  have d1 : decide (st < 1) = false := by simp; omega
  have R := Lib.hid (show ∀ x : Nat, x = Bit.rangeS l h t ↔ x = part l t ((h - l) / t + 1) from fun _ => Iff.rfl)
  have P := Lib.hid (part_succ l t)
  have PL := Lib.hid (fun k (h1 : k = 0 ∨ l + (k - 1) * t ≤ h) => part_lt h1 b)
  have st0 : 1 ≤ st := by omega
  go_enter Tryz.func35, Tryz.ntmps35
  go_wp2_with fail
  refine (A.out _).mono ?_
  rintro e w1 ⟨rfl, rfl⟩
  go_wp2_with fail
  refine (B.out _).mono ?_
  rintro e w1 ⟨rfl, rfl⟩
  go_wp2_with fail
  go_loop [8, 9] (fun s i => ∃ k v : Nat, v = l + k * t ∧ v ≤ 127 ∧ i = .int .i64 v ∧ s = .int .u64 (part l t k : Nat) ∧ (k = 0 ∨ l + (k - 1) * t ≤ h)) (fun _ i => 128 - (intOf i).toNat)
  case atStart => exact ⟨0, l, by omega, by omega, rfl, rfl, .inl rfl⟩
  case round =>
    obtain ⟨k, v, hv, v1, rfl, rfl, hk⟩ := hrel
    have V := Lib.hid hv
    have K := Lib.hid hk
    have pl := PL.out k hk
    have or_ : v < 64 → bits .or .u64 (part l t k : Nat) ((2 ^ v : Nat) : Int) = (part l t (k + 1) : Nat) := fun h => by
      rw [u64_or_nat _ _ pl (Bit.one_lt h), P.out k, ← hv]
    clear hv hk
    by_cases q : v ≤ h
    · have q1 : decide ((v : Int) ≤ h) = true := by simpa using q
      have q2 : decide (v ≤ h) = true := by simpa using q
      have or1 := or_ (by omega)
      have M := Lib.hid (O.out v · (by omega))
      obtain ⟨m, hm⟩ : ∃ m : Nat, 2 ^ v = m := ⟨_, rfl⟩
      obtain ⟨x, hx⟩ : ∃ x : Nat, part l t k = x := ⟨_, rfl⟩
      obtain ⟨y, hy⟩ : ∃ y : Nat, part l t (k + 1) = y := ⟨_, rfl⟩
      rw [hm] at M or1
      rw [hx, hy] at or1
      rw [hx] at pl ⊢
      have HY := Lib.hid hy
      clear or_ hm hx hy
      go_wp2_with fail
      refine (M.out _).mono ?_
      rintro e w1 ⟨rfl, rfl⟩
      go_wp2_with fail
      go_round
      case rel => exact ⟨k + 1, v + t, by rw [V.out, Nat.succ_mul]; omega, by omega, by go_num, by rw [HY.out], .inr (by rw [Nat.add_sub_cancel, ← V.out]; exact q)⟩
      case measure => simp [intOf]; omega
    · have q1 : decide ((v : Int) ≤ h) = false := by simpa using q
      have q2 : decide (v ≤ h) = false := by simpa using q
      have E : part l t k = Bit.rangeS l h t := by
        rw [R.out]
        have k1 : k = (h - l) / t + 1 := by
          have hv := V.out
          rcases K.out with rfl | z
          · omega
          · have a1 : k - 1 ≤ (h - l) / t := (Nat.le_div_iff_mul_le (by omega)).2 (by omega)
            have a2 : (h - l) / t < k := (Nat.div_lt_iff_lt_mul (by omega)).2 (by omega)
            omega
        rw [k1]
      clear or_
      go_wp2_with fail
      go_ret2
      exact ⟨rfl, rfl⟩
theorem range_any (lo hi st : Int) (s : Nat) (r : Int) (w : World) (hr : IsRange lo hi st s r) :
    Calls Tryz.prog 35 #[.int .i64 lo, .int .i64 hi, .int .i64 st] w fun e w' => e = .returned (.tuple #[.int .u64 s, .int .i64 r]) ∧ w = w' := by
  rcases hr with ⟨h, rfl, rfl⟩ | ⟨a0, a1, b0, b1, h, rfl, rfl⟩ | ⟨l, h, t, rfl, rfl, rfl, a, b, c, rfl, rfl⟩
  · exact range_bad1 lo hi st w h
  · exact range_bad2 lo hi st w a0 a1 b0 b1 h
  · by_cases q : t ≤ 64
    · exact range_good l h t t w a b c (by omega) q
    · rw [range_big a b (by omega)]
      exact range_good l h t 64 w a b (by omega) (by omega) (by omega)

/-! the document's -/
theorem upto_succ {R : Nat} (hR : R < 2 ^ 64) {v : Nat} (hv : v < 64) : upto R ((v : Int) + 1) = if R.testBit v then upto R v ||| 2 ^ v else upto R v := by
  apply Bit.ext64 (upto_lt hR _) (by
    split
    · exact Bit.or_lt (upto_lt hR _) (Bit.one_lt hv)
    · exact upto_lt hR _)
  intro j hj
  rw [upto_bit hR]
  by_cases c : R.testBit v = true
  · rw [if_pos c, Nat.testBit_or, upto_bit hR, Bit.bit_one]
    by_cases e : v = j
    · subst e; simp [c]; omega
    · have : ((j : Int) < (v : Int) + 1) ↔ (j : Int) < v := by omega
      simp [e, this]
  · rw [if_neg c, upto_bit hR]
    by_cases e : v = j
    · subst e
      have c : R.testBit v = false := by simpa using c
      simp [c]
    · have : ((j : Int) < (v : Int) + 1) ↔ (j : Int) < v := by omega
      simp [this]
theorem upto_none {R : Nat} (hR : R < 2 ^ 64) {v : Int} (h : ∀ j, R.testBit j = true → v ≤ j) : upto R v = 0 := by
  apply Bit.ext64 (upto_lt hR _) (by decide)
  intro j hj
  rw [upto_bit hR, Nat.zero_testBit]
  cases c : R.testBit j with
  | false => rfl
  | true =>
    have := h j c
    simp; omega
theorem upto_full {R : Nat} (hR : R < 2 ^ 64) {v : Int} (h : ∀ j, R.testBit j = true → j < v) : upto R v = R := by
  apply Bit.ext64 (upto_lt hR _) hR
  intro j hj
  rw [upto_bit hR]
  cases c : R.testBit j with
  | false => rfl
  | true => simpa using h j c
theorem rangeR_bad1 (lo hi st : Int) (w : World) (h : ¬ (0 ≤ lo ∧ lo < 64 ∧ 0 ≤ hi ∧ hi < 64)) :
    Calls Tryz.prog 36 #[.int .i64 lo, .int .i64 hi, .int .i64 st] w fun e w' => e = .returned (.tuple #[.int .u64 0, .int .i64 3]) ∧ w = w' := by
  by_cases a : lo < 0
  · have d0 : decide (lo < 0) = true := by simpa using a
    clear h a
    go_enter Tryz.func36, Tryz.ntmps36
    go_wp2
    go_ret2
    exact ⟨rfl, rfl⟩
  · have d0 : decide (lo < 0) = false := by simpa using a
    by_cases b : 63 < lo
    · have d1 : decide (63 < lo) = true := by simpa using b
      clear h a b
      go_enter Tryz.func36, Tryz.ntmps36
      go_wp2
      go_ret2
      exact ⟨rfl, rfl⟩
    · have d1 : decide (63 < lo) = false := by simpa using b
      by_cases c : hi < 0
      · have d2 : decide (hi < 0) = true := by simpa using c
        clear h a b c
        go_enter Tryz.func36, Tryz.ntmps36
        go_wp2
        go_ret2
        exact ⟨rfl, rfl⟩
      · have d2 : decide (hi < 0) = false := by simpa using c
        have d3 : decide (63 < hi) = true := by simp; omega
        clear h a b c
        go_enter Tryz.func36, Tryz.ntmps36
        go_wp2
        go_ret2
        exact ⟨rfl, rfl⟩
theorem rangeR_bad2 (lo hi st : Int) (w : World) (a0 : 0 ≤ lo) (a1 : lo < 64) (b0 : 0 ≤ hi) (b1 : hi < 64) (h : hi < lo ∨ st < 1) :
    Calls Tryz.prog 36 #[.int .i64 lo, .int .i64 hi, .int .i64 st] w fun e w' => e = .returned (.tuple #[.int .u64 0, .int .i64 2]) ∧ w = w' := by
  have d0 : decide (lo < 0) = false := by simpa using a0
  have d1 : decide (63 < lo) = false := by simp; omega
  have d2 : decide (hi < 0) = false := by simpa using b0
  have d3 : decide (63 < hi) = false := by simp; omega
  by_cases c : hi < lo
  · have d : decide (hi < lo) = true := by simpa using c
    clear h c
    go_enter Tryz.func36, Tryz.ntmps36
    go_wp2
    go_ret2
    exact ⟨rfl, rfl⟩
  · have d : decide (hi < lo) = false := by simpa using c
    have d4 : decide (st < 1) = true := by simp; omega
    clear h c
    go_enter Tryz.func36, Tryz.ntmps36
    go_wp2
    go_ret2
    exact ⟨rfl, rfl⟩
theorem rangeR_good (l h t : Nat) (w : World) (a : l ≤ h) (b : h < 64) (c : 1 ≤ t) :
    Calls Tryz.prog 36 #[.int .i64 l, .int .i64 h, .int .i64 t] w fun e w' => e = .returned (.tuple #[.int .u64 (Bit.rangeS l h t : Nat), .int .i64 0]) ∧ w = w' := by
  have e0 : decide ((l : Int) < 0) = false := by simp
  have e1 : decide (63 < (l : Int)) = false := by simp; omega
  have e2 : decide ((h : Int) < 0) = false := by simp
  have e3 : decide (63 < (h : Int)) = false := by simp; omega
  have d : decide ((h : Int) < l) = false := by simp; omega
  have d0 : decide (h < l) = false := by simp; omega
  have d1 : decide ((t : Int) < 1) = false := by simp; omega
  have RL := Bit.rangeS_lt a c b
  have RB := Lib.hid (fun v => Bit.rangeS_bit (v := v) a c)
  have U := Lib.hid (fun (v : Nat) (hv : v < 64) => upto_succ RL hv)
  have U0 := Lib.hid (upto_none RL (v := (l : Int)) (fun j hj => by rw [RB.out] at hj; simp at hj; omega))
  have U1 := Lib.hid (upto_full RL (v := (h : Int) + 1) (fun j hj => by rw [RB.out] at hj; simp at hj; omega))
  have UL := Lib.hid (fun v => upto_lt RL v)
  obtain ⟨R, hR⟩ : ∃ R, Bit.rangeS l h t = R := ⟨_, rfl⟩
  rw [hR] at U U0 U1 UL ⊢
  simp only [hR] at RB
  clear RL hR
  go_enter Tryz.func36, Tryz.ntmps36
  go_wp2_with fail
  go_loop [8, 9] (fun s i => ∃ v : Nat, l ≤ v ∧ v ≤ h + 1 ∧ i = .int .i64 v ∧ s = .int .u64 (upto R v : Nat)) (fun _ i => 65 - (intOf i).toNat)
  case atStart => exact ⟨l, by omega, by omega, rfl, by rw [U0.out]; rfl⟩
  case round =>
    obtain ⟨v, v0, v1, rfl, rfl⟩ := hrel
    by_cases q : v ≤ h
    · have q1 : decide ((v : Int) ≤ h) = true := by simpa using q
      have q2 : decide (v ≤ h) = true := by simpa using q
      have us := U.out v (by omega)
      have ul := UL.out (v : Int)
      have w1 : IntKind.u64.wrap ((2 : Int) ^ v) = ((2 ^ v : Nat) : Int) := wrap_pow (by omega)
      have or_ : bits .or .u64 (upto R v : Nat) ((2 ^ v : Nat) : Int) = (upto R v ||| 2 ^ v : Nat) := u64_or_nat _ _ ul (Bit.one_lt (by omega))
      have rb := RB.out v
      have iv : ((v : Int) - l) = ((v - l : Nat) : Int) := by omega
      cases tb : R.testBit v with
      | true =>
        rw [tb] at rb us
        rw [if_pos rfl] at us
        rw [← us] at or_
        have z : (((v : Int) - l) % t == 0) = true := by
          have := (of_decide_eq_true rb.symm).2.2
          rw [iv, ← Int.natCast_emod, this]; rfl
        obtain ⟨m, hm⟩ : ∃ m : Nat, 2 ^ v = m := ⟨_, rfl⟩
        obtain ⟨x, hx⟩ : ∃ x : Nat, upto R v = x := ⟨_, rfl⟩
        obtain ⟨y, hy⟩ : ∃ y : Nat, upto R ((v : Int) + 1) = y := ⟨_, rfl⟩
        rw [hm] at w1 or_
        rw [hx, hy] at or_
        rw [hx] at ul ⊢
        have HY := Lib.hid hy
        clear us rb tb iv hm hx hy
        go_wp2_with fail
        go_round
        case rel => exact ⟨v + 1, by omega, by omega, by go_num, by rw [← HY.out]; rfl⟩
        case measure => simp [intOf]; omega
      | false =>
        rw [tb] at rb us
        rw [if_neg (by simp)] at us
        have z : (((v : Int) - l) % t == 0) = false := by
          have := of_decide_eq_false rb.symm
          rw [iv, ← Int.natCast_emod]
          rw [beq_eq_false_iff_ne]
          omega
        have HY := Lib.hid us
        clear us rb tb iv or_ w1
        go_wp2_with fail
        go_round
        case rel => exact ⟨v + 1, by omega, by omega, by go_num, by rw [← HY.out]; rfl⟩
        case measure => simp [intOf]; omega
    · have q1 : decide ((v : Int) ≤ h) = false := by simpa using q
      have q2 : decide (v ≤ h) = false := by simpa using q
      obtain rfl : v = h + 1 := by omega
      go_wp2_with fail
      go_ret2
      exact ⟨ret_sr (by rw [U1.out]), rfl⟩
theorem rangeR_any (lo hi st : Int) (s : Nat) (r : Int) (w : World) (hr : IsRange lo hi st s r) :
    Calls Tryz.prog 36 #[.int .i64 lo, .int .i64 hi, .int .i64 st] w fun e w' => e = .returned (.tuple #[.int .u64 s, .int .i64 r]) ∧ w = w' := by
  rcases hr with ⟨h, rfl, rfl⟩ | ⟨a0, a1, b0, b1, h, rfl, rfl⟩ | ⟨l, h, t, rfl, rfl, rfl, a, b, c, rfl, rfl⟩
  · exact rangeR_bad1 lo hi st w h
  · exact rangeR_bad2 lo hi st w a0 a1 b0 b1 h
  · exact rangeR_good l h t w a b c
end Go.Proofs.YtlmbfhbfejjpdaaGreatDoor
