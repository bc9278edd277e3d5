/- Plain mathematics of sets of the numbers from 0 to 63: members, lists, ranges, runs. No program stands here. Contracts of below, exists, only, Inside, Has, of package bits and of the document's: what each call returns; the world stays. Plain mathematics of fields of crontab expressions: numbers and names as they are read, items, lists of items, what is wrong with them, and their sets. No program stands here. Plain mathematics of looking for numbers in a direction, up or down: the numbers of a set from one on, the first second of a day. No program stands here. Plain facts of three loops, one in another, that look for the first second of a day: what they find is the first one. -/
import Derived.Test.YtljackjcgfaanaaGreatDoorProg
import Derived.WalkKit
import Derived.ProofKit
import Derived.Lib.Hide
import Derived.Laws.Shifts
import Derived.Laws.BitsAllLaws
import Derived.Test.YtljackjcgfaanaaGreatDoorGCivMath
/- Plain mathematics of sets of the numbers from 0 to 63: members, lists, ranges, runs. No program stands here. Contracts of below, exists, only, Inside, Has, of package bits and of the document's: what each call returns; the world stays. Plain mathematics of fields of crontab expressions: numbers and names as they are read, items, lists of items, what is wrong with them, and their sets. No program stands here. -/
/- Plain mathematics of sets of the numbers from 0 to 63: members, lists, ranges, runs. No program stands here. -/
namespace Go.Proofs.YtljackjcgfaanaaGreatDoor.Bit
theorem ext64 {S T : Nat} (hS : S < 2 ^ 64) (hT : T < 2 ^ 64) (h : ∀ v, v < 64 → S.testBit v = T.testBit v) : S = T := by
  apply Nat.eq_of_testBit_eq
  intro v
  by_cases c : v < 64
  · exact h v c
  · rw [Nat.testBit_lt_two_pow (Nat.lt_of_lt_of_le hS (Nat.pow_le_pow_right (by decide) (by omega))), Nat.testBit_lt_two_pow (Nat.lt_of_lt_of_le hT (Nat.pow_le_pow_right (by decide) (by omega)))]
theorem bit_one (v w : Nat) : (2 ^ v).testBit w = decide (v = w) := by
  rw [Nat.testBit_two_pow]
theorem or_lt {S T : Nat} (hS : S < 2 ^ 64) (hT : T < 2 ^ 64) : S ||| T < 2 ^ 64 := Nat.or_lt_two_pow hS hT
theorem one_lt {v : Nat} (h : v < 64) : 2 ^ v < 2 ^ 64 := Nat.pow_lt_pow_right (by decide) h
/-- the numbers of a set from v on, below 64 -/
def memFrom (S : Nat) (v n : Nat) : List Nat := (List.range' v n).filter (S.testBit ·)
/-- the numbers of a set -/
def mem (S : Nat) : List Nat := memFrom S 0 64
theorem mem_iff {S v : Nat} : v ∈ mem S ↔ v < 64 ∧ S.testBit v = true := by
  unfold mem memFrom
  simp [List.mem_filter, List.mem_range']
/-- the numbers below k -/
def memTo (S k : Nat) : List Nat := (List.range' 0 k).filter (S.testBit ·)
theorem memTo_succ (S k : Nat) : memTo S (k + 1) = if S.testBit k then memTo S k ++ [k] else memTo S k := by
  unfold memTo
  rw [List.range'_concat, List.filter_append]
  simp only [Nat.zero_add, Nat.one_mul]
  by_cases c : S.testBit k = true
  · simp [c]
  · simp [c]
theorem memTo_all (S : Nat) : memTo S 64 = mem S := rfl
theorem memTo_len (S k : Nat) : (memTo S k).length ≤ k := by
  unfold memTo
  exact Nat.le_trans (List.length_filter_le _ _) (by simp)
theorem mem_len (S : Nat) : (mem S).length ≤ 64 := memTo_len S 64
theorem mem_sorted (S : Nat) : (mem S).Pairwise (· < ·) := List.Pairwise.filter _ List.pairwise_lt_range'
/-- how many of the numbers that follow keep the distance -/
def keep (step prev : Nat) : List Nat → Nat
  | [] => 0
  | x :: r => if x - prev = step then keep step x r + 1 else 0
def step1 : List Nat → Nat
  | a :: b :: r => if keep (b - a) b r = 0 ∧ 1 < b - a then 1 else b - a
  | _ => 1
/-- the numbers lo, lo + step, .. , n of them -/
def nums (lo step n : Nat) : List Nat := (List.range n).map fun k => lo + k * step
theorem nums_len (lo step n : Nat) : (nums lo step n).length = n := by simp [nums]
def ofL (S : Nat) (l : List Nat) : Nat := l.foldl (fun s v => s ||| 2 ^ v) S
theorem ofL_bit (l : List Nat) (S v : Nat) : (ofL S l).testBit v = (S.testBit v || decide (v ∈ l)) := by
  induction l generalizing S with
  | nil => simp [ofL]
  | cons a l ih =>
    show (ofL (S ||| 2 ^ a) l).testBit v = _
    rw [ih, Nat.testBit_or, bit_one]
    by_cases c : a = v
    · subst c; simp
    · have : ¬ v = a := fun h => c h.symm
      simp [c, this]
theorem ofL_lt (l : List Nat) (S : Nat) (hS : S < 2 ^ 64) (h : ∀ v ∈ l, v < 64) : ofL S l < 2 ^ 64 := by
  induction l generalizing S with
  | nil => exact hS
  | cons a l ih =>
    show ofL (S ||| 2 ^ a) l < 2 ^ 64
    exact ih _ (or_lt hS (one_lt (h a (by simp)))) (fun v hv => h v (by simp [hv]))
/-- the set of a range -/
def rangeS (lo hi step : Nat) : Nat := ofL 0 (nums lo step ((hi - lo) / step + 1))
theorem nums_mem {lo step n v : Nat} : v ∈ nums lo step n ↔ ∃ k, k < n ∧ v = lo + k * step := by
  unfold nums
  simp only [List.mem_map, List.mem_range]
  constructor
  · rintro ⟨k, a, b⟩; exact ⟨k, a, b.symm⟩
  · rintro ⟨k, a, b⟩; exact ⟨k, a, b.symm⟩
theorem nums_range {lo hi step v : Nat} (h : lo ≤ hi) (s : 1 ≤ step) : v ∈ nums lo step ((hi - lo) / step + 1) ↔ lo ≤ v ∧ v ≤ hi ∧ (v - lo) % step = 0 := by
  rw [nums_mem]
  constructor
  · rintro ⟨k, a, rfl⟩
    have k1 : k ≤ (hi - lo) / step := by omega
    have := (Nat.le_div_iff_mul_le (by omega)).1 k1
    refine ⟨by omega, by omega, ?_⟩
    rw [Nat.add_sub_cancel_left]; exact Nat.mul_mod_left k step
  · rintro ⟨a, b, c⟩
    refine ⟨(v - lo) / step, ?_, ?_⟩
    · have := Nat.div_le_div_right (c := step) (show v - lo ≤ hi - lo by omega)
      omega
    · have := Nat.div_add_mod (v - lo) step
      rw [Nat.mul_comm] at this
      omega
theorem nums_sorted (lo step n : Nat) (s : 1 ≤ step) : (nums lo step n).Pairwise (· < ·) := by
  rw [List.pairwise_iff_getElem]
  intro i j hi hj hij
  simp only [nums, List.getElem_map, List.getElem_range]
  have := Nat.mul_lt_mul_of_pos_right hij (show 0 < step by omega)
  omega
theorem rangeS_bit {lo hi step v : Nat} (h : lo ≤ hi) (s : 1 ≤ step) : (rangeS lo hi step).testBit v = decide (lo ≤ v ∧ v ≤ hi ∧ (v - lo) % step = 0) := by
  unfold rangeS
  rw [ofL_bit, Nat.zero_testBit, Bool.false_or]
  by_cases c : v ∈ nums lo step ((hi - lo) / step + 1)
  · simp only [c, decide_true]; exact (decide_eq_true ((nums_range h s).1 c)).symm
  · simp only [c, decide_false]; exact (decide_eq_false (fun k => c ((nums_range h s).2 k))).symm
theorem rangeS_lt {lo hi step : Nat} (h : lo ≤ hi) (s : 1 ≤ step) (hh : hi < 64) : rangeS lo hi step < 2 ^ 64 :=
  ofL_lt _ _ (by decide) (fun v hv => by have := (nums_range h s).1 hv; omega)
end Go.Proofs.YtljackjcgfaanaaGreatDoor.Bit
/- Contracts of below, exists, only, Inside, Has, of package bits and of the document's: what each call returns; the world stays. -/
namespace Go.Proofs.YtljackjcgfaanaaGreatDoor
open Go.RowKit

theorem ret_int {k : IntKind} {a b : Int} (h : a = b) : Ending.returned (.int k a) = .returned (.int k b) := by rw [h]
theorem ret_bool {a b : Bool} (h : a = b) : Ending.returned (.bool a) = .returned (.bool b) := by rw [h]

theorem wrap_pow {k : Nat} (h : k < 64) : IntKind.u64.wrap ((2 : Int) ^ k) = ((2 ^ k : Nat) : Int) := by
  have e : ((2 : Int) ^ k) = ((2 ^ k : Nat) : Int) := by simp
  have b := Bit.one_lt h
  rw [e, IntKind.wrap_u64]
  generalize 2 ^ k = m at b
  omega
/-- the set of the numbers below v -/
def low (v : Int) : Nat := 2 ^ (min v.toNat 64) - 1
theorem low_lt (v : Int) : low v < 2 ^ 64 := by
  unfold low
  have := Nat.pow_le_pow_right (n := 2) (by decide) (Nat.min_le_right v.toNat 64)
  have := Nat.two_pow_pos (min v.toNat 64)
  omega
theorem low_bit (v : Int) (j : Nat) : (low v).testBit j = decide (j < 64 ∧ (j : Int) < v) := by
  unfold low
  rw [Nat.testBit_two_pow_sub_one]
  congr 1
  apply propext
  omega
/-- without the numbers below v -/
def from_ (S : Nat) (v : Int) : Nat := S &&& (18446744073709551615 - low v)
theorem not_bit {T : Nat} (hT : T < 2 ^ 64) (j : Nat) : (18446744073709551615 - T).testBit j = (decide (j < 64) && !T.testBit j) := by
  have e : 18446744073709551615 - T = 2 ^ 64 - (T + 1) := by omega
  rw [e, Nat.testBit_two_pow_sub_succ hT]
theorem set_hi {S : Nat} (hS : S < 2 ^ 64) {j : Nat} (h : S.testBit j = true) : j < 64 := by
  by_cases c : j < 64
  · exact c
  · rw [Nat.testBit_lt_two_pow (Nat.lt_of_lt_of_le hS (Nat.pow_le_pow_right (by decide) (by omega)))] at h
    cases h
theorem from_bit {S : Nat} (hS : S < 2 ^ 64) (v : Int) (j : Nat) : (from_ S v).testBit j = (S.testBit j && decide (v ≤ j)) := by
  unfold from_
  rw [Nat.testBit_and, not_bit (low_lt v), low_bit]
  by_cases c : S.testBit j = true
  · have := set_hi hS c
    rw [c]
    by_cases d : (j : Int) < v
    · have d' : ¬ v ≤ j := by omega
      simp [d, d', this]
    · have d' : v ≤ j := by omega
      simp [d, d', this]
  · have c : S.testBit j = false := by simpa using c
    rw [c]; rfl
theorem from_lt {S : Nat} (hS : S < 2 ^ 64) (v : Int) : from_ S v < 2 ^ 64 := Nat.lt_of_le_of_lt Nat.and_le_left hS
/-- the numbers below v alone -/
def upto (S : Nat) (v : Int) : Nat := S &&& low v
theorem upto_bit {S : Nat} (hS : S < 2 ^ 64) (v : Int) (j : Nat) : (upto S v).testBit j = (S.testBit j && decide ((j : Int) < v)) := by
  unfold upto
  rw [Nat.testBit_and, low_bit]
  by_cases c : S.testBit j = true
  · have := set_hi hS c
    rw [c]
    simp [this]
  · have c : S.testBit j = false := by simpa using c
    rw [c]; rfl
theorem upto_lt {S : Nat} (hS : S < 2 ^ 64) (v : Int) : upto S v < 2 ^ 64 := Nat.lt_of_le_of_lt Nat.and_le_left hS

theorem below_neg (v : Int) (w : World) (h : v ≤ 0) :
    Calls Tryz.prog 170 #[.int .i64 v] w fun e w' => e = .returned (.int .u64 0) ∧ w = w' := by
  by_cases c : v = 0
  · subst c
    go_enter Tryz.func170, Tryz.ntmps170
    go_wp2
    go_ret; exact ⟨rfl, rfl⟩
  · have h' : v < 0 := by omega
    clear h c
    go_enter Tryz.func170, Tryz.ntmps170
    go_wp2
    go_ret; exact ⟨rfl, rfl⟩
theorem below_mid (v : Int) (w : World) (h : 0 < v) (h1 : v < 64) :
    Calls Tryz.prog 170 #[.int .i64 v] w fun e w' => e = .returned (.int .u64 ((2 ^ v.toNat - 1 : Nat) : Int)) ∧ w = w' := by
  go_enter Tryz.func170, Tryz.ntmps170
  go_wp2
  go_ret
  refine ⟨ret_int ?_, rfl⟩
  have k : v.toNat < 64 := by omega
  rw [wrap_pow k, IntKind.wrap_u64]
  have := Bit.one_lt k
  have := Nat.two_pow_pos v.toNat
  omega
theorem below_big (v : Int) (w : World) (h : 64 ≤ v) (h1 : v ≤ 9223372036854775807) :
    Calls Tryz.prog 170 #[.int .i64 v] w fun e w' => e = .returned (.int .u64 18446744073709551615) ∧ w = w' := by
  have h0 : 0 ≤ v := by omega
  have hm : min v.toNat 64 = 64 := by omega
  have hm' : min v.toNat IntKind.u64.bits = 64 := hm
  go_enter Tryz.func170, Tryz.ntmps170
  go_wp2
  go_ret
  exact ⟨rfl, rfl⟩
theorem below_any (v : Int) (w : World) (h1 : v ≤ 9223372036854775807) :
    Calls Tryz.prog 170 #[.int .i64 v] w fun e w' => e = .returned (.int .u64 (low v : Nat)) ∧ w = w' := by
  by_cases a : v ≤ 0
  · have e : low v = 0 := by unfold low; rw [show min v.toNat 64 = 0 by omega]
    rw [e]; exact below_neg v w a
  · by_cases b : v < 64
    · have e : low v = 2 ^ v.toNat - 1 := by unfold low; rw [show min v.toNat 64 = v.toNat by omega]
      rw [e]; exact below_mid v w (by omega) b
    · have e : low v = 18446744073709551615 := by unfold low; rw [show min v.toNat 64 = 64 by omega]
      rw [e]; exact below_big v w (by omega) h1
theorem exists_t (v : Int) (w : World) (h0 : 0 ≤ v) (h1 : v < 64) :
    Calls Tryz.prog 150 #[.int .i64 v] w fun e w' => e = .returned (.bool true) ∧ w = w' := by
  go_enter Tryz.func150, Tryz.ntmps150
  go_wp2
  go_ret
  exact ⟨rfl, rfl⟩
theorem exists_f (v : Int) (w : World) (h : v < 0 ∨ 64 ≤ v) :
    Calls Tryz.prog 150 #[.int .i64 v] w fun e w' => e = .returned (.bool false) ∧ w = w' := by
  rcases h with h | h
  · have d : decide (0 ≤ v) = false := by simp; omega
    go_enter Tryz.func150, Tryz.ntmps150
    go_wp2
    go_ret
    exact ⟨rfl, rfl⟩
  · have d0 : decide (0 ≤ v) = true := by simp; omega
    have d : decide (v < 64) = false := by simp; omega
    go_enter Tryz.func150, Tryz.ntmps150
    go_wp2
    go_ret
    exact ⟨rfl, rfl⟩
theorem only_any (v : Nat) (w : World) (h : v < 64) :
    Calls Tryz.prog 151 #[.int .i64 v] w fun e w' => e = .returned (.int .u64 ((2 ^ v : Nat) : Int)) ∧ w = w' := by
  go_enter Tryz.func151, Tryz.ntmps151
  go_wp2
  go_ret
  exact ⟨ret_int (wrap_pow h), rfl⟩

/-- are all numbers of A in B? -/
def subB (A B : Nat) : Bool := decide (A &&& B = A)
theorem sub_all {A B : Nat} (hA : A < 2 ^ 64) : subB A B = true ↔ ∀ j, j < 64 → A.testBit j = true → B.testBit j = true := by
  unfold subB
  rw [decide_eq_true_iff]
  constructor
  · intro h j hj ha
    rw [← h, Nat.testBit_and, Bool.and_eq_true] at ha
    exact ha.2
  · intro h
    apply Bit.ext64 (Nat.lt_of_le_of_lt Nat.and_le_left hA) hA
    intro j hj
    rw [Nat.testBit_and]
    by_cases c : A.testBit j = true
    · rw [h j hj c]; simp
    · have c : A.testBit j = false := by simpa using c
      rw [c]; rfl
theorem sub_iff {A B : Nat} (hA : A < 2 ^ 64) (hB : B < 2 ^ 64) : A &&& (18446744073709551615 - B) = 0 ↔ subB A B = true := by
  rw [sub_all hA]
  constructor
  · intro h j hj ha
    have : (A &&& (18446744073709551615 - B)).testBit j = false := by rw [h]; exact Nat.zero_testBit j
    rw [Nat.testBit_and, not_bit hB, ha] at this
    simpa [hj] using this
  · intro h
    apply Bit.ext64 (Nat.lt_of_le_of_lt Nat.and_le_left hA) (by decide)
    intro j hj
    rw [Nat.testBit_and, not_bit hB, Nat.zero_testBit]
    by_cases c : A.testBit j = true
    · rw [h j hj c]; simp
    · have c : A.testBit j = false := by simpa using c
      rw [c]; rfl
theorem inside_any (A B : Nat) (w : World) (hA : A < 2 ^ 64) (hB : B < 2 ^ 64) :
    Calls Tryz.prog 104 #[.int .u64 A, .int .u64 B] w fun e w' => e = .returned (.bool (subB A B)) ∧ w = w' := by
  have k := sub_iff hA hB
  have e : bits .andNot .u64 (A : Int) (B : Int) = ((A &&& (18446744073709551615 - B) : Nat) : Int) := u64_andNot_nat A B hA hB
  have d : ((A &&& (18446744073709551615 - B) : Nat) == 0) = subB A B := by
    cases hs : subB A B with
    | true => rw [hs] at k; simpa using k
    | false => rw [hs] at k; simpa using k
  obtain ⟨z, hz⟩ : ∃ z, A &&& (18446744073709551615 - B) = z := ⟨_, rfl⟩
  rw [hz] at e d
  have d' : (((z : Nat) : Int) == 0) = subB A B := by rw [← d]; cases z <;> simp <;> omega
  obtain ⟨t, ht⟩ : ∃ t, subB A B = t := ⟨_, rfl⟩
  rw [ht] at d' ⊢
  clear k d hz ht
  go_enter Tryz.func104, Tryz.ntmps104
  go_wp2
  go_ret
  exact ⟨rfl, rfl⟩
def hasB (S : Nat) (v : Int) : Bool := decide (0 ≤ v ∧ v < 64) && S.testBit v.toNat
theorem has_nat {S : Nat} (hS : S < 2 ^ 64) (j : Nat) : hasB S j = S.testBit j := by
  unfold hasB
  by_cases c : S.testBit j = true
  · have := set_hi hS c
    have d : (0 ≤ (j : Int) ∧ (j : Int) < 64) := by omega
    simp [d, c]
  · have c : S.testBit j = false := by simpa using c
    simp [c]
theorem sub_one {S v : Nat} (h : v < 64) : subB (2 ^ v) S = S.testBit v := by
  have k := sub_all (B := S) (Bit.one_lt h)
  by_cases c : S.testBit v = true
  · rw [c, k]
    intro j _ hj
    rw [Bit.bit_one] at hj
    have : v = j := by simpa using hj
    rw [← this]; exact c
  · have e : ¬ subB (2 ^ v) S = true := by
      rw [k]
      intro q
      exact c (q v h (by rw [Bit.bit_one]; simp))
    have c : S.testBit v = false := by simpa using c
    rw [c]
    simpa using e
theorem has_any (S : Nat) (v : Int) (w : World) (hS : S < 2 ^ 64) :
    Calls Tryz.prog 134 #[.int .u64 S, .int .i64 v] w fun e w' => e = .returned (.bool (hasB S v)) ∧ w = w' := by
  by_cases c : 0 ≤ v ∧ v < 64
  · obtain ⟨n, rfl⟩ := Int.eq_ofNat_of_zero_le c.1
    have n64 : n < 64 := by omega
    have X := Lib.hid (fun w => exists_t (n : Int) w c.1 c.2)
    have O := Lib.hid (fun w => only_any n w n64)
    have I := Lib.hid (fun w => inside_any (2 ^ n) S w (Bit.one_lt n64) hS)
    have E : hasB S n = subB (2 ^ n) S := by rw [sub_one n64, has_nat hS]
    obtain ⟨t, ht⟩ : ∃ t, subB (2 ^ n) S = t := ⟨_, rfl⟩
    obtain ⟨m, hm⟩ : ∃ m : Nat, 2 ^ n = m := ⟨_, rfl⟩
    rw [E, ht]
    rw [ht, hm] at I
    rw [hm] at O
    clear E ht c n64 hm
    go_enter Tryz.func134, Tryz.ntmps134
    go_wp2_with fail
    refine (X.out _).mono ?_
    rintro e w1 ⟨rfl, rfl⟩
    go_wp2_with fail
    refine (O.out _).mono ?_
    rintro e w1 ⟨rfl, rfl⟩
    go_wp2_with fail
    refine (I.out _).mono ?_
    rintro e w1 ⟨rfl, rfl⟩
    go_wp2_with fail
    go_ret
    exact ⟨rfl, rfl⟩
  · have E : hasB S v = false := by unfold hasB; simp [c]
    have X := Lib.hid (fun w => exists_f v w (by omega))
    rw [E]
    clear E c
    go_enter Tryz.func134, Tryz.ntmps134
    go_wp2_with fail
    refine (X.out _).mono ?_
    rintro e w1 ⟨rfl, rfl⟩
    go_wp2_with fail
    go_ret
    exact ⟨rfl, rfl⟩
theorem hasR_any (S : Nat) (v : Int) (w : World) (hS : S < 2 ^ 64) :
    Calls Tryz.prog 99 #[.int .u64 S, .int .i64 v] w fun e w' => e = .returned (.bool (hasB S v)) ∧ w = w' := by
  by_cases c : 0 ≤ v ∧ v < 64
  · obtain ⟨n, rfl⟩ := Int.eq_ofNat_of_zero_le c.1
    have n64 : n < 64 := by omega
    have d0 : decide (0 ≤ (n : Int)) = true := by simp
    have d1 : decide ((n : Int) ≤ 63) = true := by simp; omega
    have n0 : (0 : Int) ≤ n := by omega
    have q : (S : Int) / 2 ^ n = ((S / 2 ^ n : Nat) : Int) := by simp
    have q1 : S / 2 ^ n < 2 ^ 64 := Nat.lt_of_le_of_lt (Nat.div_le_self _ _) hS
    have r : (bits .and .u64 ((S : Int) / 2 ^ n) 1 == 1) = S.testBit n := by
      rw [q, show bits .and .u64 ((S / 2 ^ n : Nat) : Int) 1 = ((S / 2 ^ n &&& 1 : Nat) : Int) from u64_and_nat (S / 2 ^ n) 1 q1 (by decide), Nat.and_one_is_mod, Nat.testBit_eq_decide_div_mod_eq]
      clear q q1
      generalize S / 2 ^ n = z
      by_cases c : z % 2 = 1
      · simp [c]
      · have : z % 2 = 0 := by omega
        simp [this]
    rw [has_nat hS n]
    have R := Lib.hid r
    clear r q q1 c
    go_enter Tryz.func99, Tryz.ntmps99
    go_wp2
    go_ret
    exact ⟨ret_bool R.out, rfl⟩
  · have E : hasB S v = false := by unfold hasB; simp [c]
    rw [E]
    by_cases k : 0 ≤ v
    · have d1 : decide (v ≤ 63) = false := by simp; omega
      clear E c
      go_enter Tryz.func99, Tryz.ntmps99
      go_wp2
      go_ret
      exact ⟨rfl, rfl⟩
    · have d1 : decide (0 ≤ v) = false := by simp; omega
      clear E c
      go_enter Tryz.func99, Tryz.ntmps99
      go_wp2
      go_ret
      exact ⟨rfl, rfl⟩
end Go.Proofs.YtljackjcgfaanaaGreatDoor
/- Plain mathematics of fields of crontab expressions: numbers and names as they are read, items, lists of items, what is wrong with them, and their sets. No program stands here. -/
namespace Go.Proofs.YtljackjcgfaanaaGreatDoor.Fld

def upN (c : Nat) : Bool := decide (65 ≤ c ∧ c ≤ 90)
def loN (c : Nat) : Bool := decide (97 ≤ c ∧ c ≤ 122)
def letN (c : Nat) : Bool := upN c || loN c
def digN (c : Nat) : Bool := decide (48 ≤ c ∧ c ≤ 57)
def isLet (c : UInt8) : Bool := letN c.toNat
def isDig (c : UInt8) : Bool := digN c.toNat
def isUp (c : UInt8) : Bool := upN c.toNat
/-- a letter in upper case -/
def up (c : UInt8) : UInt8 := if loN c.toNat then (c.toNat - 32).toUInt8 else c

/-- a kind whose numbers are not below 0 -/
structure Kd where
  lo : Nat
  hi : Nat
  names : List (List UInt8)
  week : Bool
/-- a kind that is valid -/
structure Kd.Ok (K : Kd) : Prop where
  le : K.lo ≤ K.hi
  hi : K.hi ≤ 62
  week : K.week = true → K.lo = 0 ∧ K.hi = 6
  count : K.names = [] ∨ K.names.length = K.hi - K.lo + 1
  ups : ∀ s ∈ K.names, 1 ≤ s.length ∧ s.length ≤ 9 ∧ ∀ c ∈ s, isUp c = true
  diff : K.names.Pairwise (· ≠ ·)

def digs (l : List UInt8) : List UInt8 := (l.takeWhile isDig).take 2
def val (d : List UInt8) : Nat := d.foldl (fun a c => 10 * a + (c.toNat - 48)) 0
/-- a number, and how many bytes it has -/
def num (l : List UInt8) : Option (Nat × Nat) := if digs l = [] then none else some (val (digs l), (digs l).length)
def lets (l : List UInt8) : List UInt8 := l.takeWhile isLet
def look (names : List (List UInt8)) (u : List UInt8) : Option Nat := names.findIdx? (fun s => s == u.map up)
/-- a number or a name, and how many bytes it has -/
def value (K : Kd) (l : List UInt8) : Option (Nat × Nat) := if lets l = [] then num l else (look K.names (lets l)).map fun i => (K.lo + i, (lets l).length)
/-- an item: its first number, its last one, its step, and where they stand -/
structure It where
  f : Nat
  fa : Nat
  s : Nat
  sa : Nat
  t : Nat
  ta : Nat
/-- an item, the place behind it, and what is left; or the place at which there is none -/
abbrev Res : Type := (It × Nat × List UInt8) ⊕ Nat
def rStep (x : It) (l : List UInt8) (p : Nat) : Res :=
  match num l with
  | none => .inr p
  | some (n, k) => .inl ({ x with t := n, ta := p }, p + k, l.drop k)
def rNums (x : It) (l : List UInt8) (p : Nat) : Res := if l.head? = some 47 then rStep x l.tail (p + 1) else .inl (x, p, l)
def rSec (K : Kd) (x : It) (l : List UInt8) (p : Nat) : Res :=
  match value K l with
  | none => .inr p
  | some (v, k) => rNums { x with s := v, sa := p } (l.drop k) (p + k)
def rVal (K : Kd) (x : It) (l : List UInt8) (p : Nat) : Res :=
  if l.head? = some 45 then rSec K x l.tail (p + 1)
  else if l.head? = some 47 then rStep { x with s := max x.f K.hi } l.tail (p + 1)
  else .inl (x, p, l)
def item (K : Kd) (l : List UInt8) (p : Nat) : Res :=
  if l.head? = some 42 then rNums ⟨K.lo, 0, K.hi, 0, 1, 0⟩ l.tail (p + 1)
  else match value K l with
  | none => .inr p
  | some (v, k) => rVal K ⟨v, p, v, p, 1, 0⟩ (l.drop k) (p + k)

/-- the items of a text that are whole, and where it stops being a field, if it does -/
def scanF (K : Kd) : Nat → List UInt8 → Nat → List It × Option Nat
  | 0, _, p => ([], some p)
  | n + 1, l, p =>
    match item K l p with
    | .inr q => ([], some q)
    | .inl (x, q, r) => if r = [] then ([x], none) else if r.head? = some 44 then (x :: (scanF K n r.tail (q + 1)).1, (scanF K n r.tail (q + 1)).2) else ([], some q)
def scan (K : Kd) (l : List UInt8) (p : Nat) : List It × Option Nat := scanF K (l.length + 1) l p

/-- where the result of a part stands: from p on, within l -/
def At (l : List UInt8) (p : Nat) : Res → Prop
  | .inl (_, q, r) => p ≤ q ∧ q - p ≤ l.length ∧ r = l.drop (q - p)
  | .inr q => p ≤ q ∧ q - p ≤ l.length
theorem At.up {l l' : List UInt8} {p k : Nat} {r : Res} (h : At l' (p + k) r) (hk : k ≤ l.length) (e : l' = l.drop k) : At l p r := by
  subst e
  rcases r with ⟨x, q, r⟩ | q
  · obtain ⟨a, b, c⟩ := h
    rw [List.length_drop] at b
    refine ⟨by omega, by omega, ?_⟩
    rw [c, List.drop_drop]
    congr 1
    omega
  · obtain ⟨a, b⟩ := h
    rw [List.length_drop] at b
    exact ⟨by omega, by omega⟩
theorem At.here (x : It) (l : List UInt8) (p : Nat) : At l p (.inl (x, p, l)) := ⟨Nat.le_refl _, by omega, by simp⟩
/-- what follows what has been read of an item -/
def go (K : Kd) : Res → List It × Option Nat
  | .inr q => ([], some q)
  | .inl (x, q, r) => if r = [] then ([x], none) else if r.head? = some 44 then (x :: (scan K r.tail (q + 1)).1, (scan K r.tail (q + 1)).2) else ([], some q)
def has (K : Kd) (v : Nat) : Prop := (K.lo ≤ v ∧ v ≤ K.hi) ∨ (K.week = true ∧ v = 7)
instance (K : Kd) (v : Nat) : Decidable (has K v) := by unfold has; infer_instance
end Go.Proofs.YtljackjcgfaanaaGreatDoor.Fld
/- Plain mathematics of looking for numbers in a direction, up or down: the numbers of a set from one on, the first second of a day. No program stands here. -/
namespace Go.Proofs.YtljackjcgfaanaaGreatDoor.Mat

inductive Dir where
  | up
  | down
def Dir.val : Dir → Int
  | .up => 1
  | .down => -1
/-- the first one of so many numbers, from 0 on -/
def Dir.fst (w : Dir) (n : Nat) : Nat := match w with
  | .up => 0
  | .down => n - 1
theorem Dir.val_or (w : Dir) : w.val = 1 ∨ w.val = -1 := by cases w <;> simp [Dir.val]
theorem Dir.fst_lt (w : Dir) {n : Nat} (h : 1 ≤ n) : w.fst n < n := by cases w <;> simp [Dir.fst] <;> omega
theorem Dir.fst_le (w : Dir) {n j : Nat} (h : j < n) : w.val * (w.fst n : Int) ≤ w.val * (j : Int) := by cases w <;> simp [Dir.fst, Dir.val] <;> omega
/-- a list that goes up, in the direction -/
def Dir.ord (w : Dir) (l : List Nat) : List Nat := match w with
  | .up => l
  | .down => l.reverse
/-- the numbers of a set from one on, in a direction -/
def Dir.nums (w : Dir) (S : Nat) (v : Int) : List Nat := (w.ord (Bit.mem S)).filter fun j => decide (w.val * v ≤ w.val * (j : Int))

theorem filt {f : Nat → Int} : ∀ {L : List Nat}, L.Pairwise (fun a b => f a < f b) → ∀ {u : Int} {x : Nat} {r : List Nat}, L.filter (fun j => decide (u ≤ f j)) = x :: r → L.filter (fun j => decide (f x + 1 ≤ f j)) = r
  | [], _, _, _, _, h => by simp at h
  | a :: L, hp, u, x, r, h => by
    rw [List.pairwise_cons] at hp
    by_cases c : u ≤ f a
    · rw [List.filter_cons_of_pos (by simpa using c)] at h
      simp only [List.cons.injEq] at h
      obtain ⟨rfl, h⟩ := h
      rw [List.filter_cons_of_neg (by simp; omega), ← h]
      refine List.filter_congr fun y hy => ?_
      have := hp.1 y hy
      rw [decide_eq_decide]
      omega
    · rw [List.filter_cons_of_neg (by simpa using c)] at h
      have hx : x ∈ L := by
        have : x ∈ L.filter (fun j => decide (u ≤ f j)) := by rw [h]; simp
        exact (List.mem_filter.1 this).1
      have := hp.1 x hx
      rw [List.filter_cons_of_neg (by simp; omega)]
      exact filt hp.2 h
theorem ord_mem (w : Dir) (l : List Nat) (j : Nat) : j ∈ w.ord l ↔ j ∈ l := by cases w <;> simp [Dir.ord]
theorem ord_sorted (w : Dir) (S : Nat) : (w.ord (Bit.mem S)).Pairwise (fun a b : Nat => w.val * (a : Int) < w.val * (b : Int)) := by
  have h := Bit.mem_sorted S
  cases w with
  | up => exact List.Pairwise.imp (fun {a b} h => by simp [Dir.val]; omega) h
  | down =>
    show (Bit.mem S).reverse.Pairwise _
    rw [List.pairwise_reverse]
    exact List.Pairwise.imp (fun {a b} h => by simp [Dir.val]; omega) h
theorem nums_mem {w : Dir} {S j : Nat} {v : Int} : j ∈ w.nums S v ↔ j < 64 ∧ S.testBit j = true ∧ w.val * v ≤ w.val * (j : Int) := by
  unfold Dir.nums
  rw [List.mem_filter, ord_mem, Bit.mem_iff]
  simp [and_assoc]
theorem nums_sorted (w : Dir) (S : Nat) (v : Int) : (w.nums S v).Pairwise (fun a b : Nat => w.val * (a : Int) < w.val * (b : Int)) := (ord_sorted w S).filter _
/-- behind the first one -/
theorem nums_more {w : Dir} {S x : Nat} {v : Int} {r : List Nat} (h : w.nums S v = x :: r) : w.nums S ((x : Int) + w.val) = r := by
  have q := filt (f := fun j => w.val * (j : Int)) (ord_sorted w S) h
  rw [← q]
  unfold Dir.nums
  refine List.filter_congr fun y _ => ?_
  rw [decide_eq_decide]
  cases w <;> simp [Dir.val] <;> omega
theorem nums_first {w : Dir} {S x : Nat} {v : Int} {r : List Nat} (h : w.nums S v = x :: r) : ∀ j, j < 64 → S.testBit j = true → w.val * v ≤ w.val * (j : Int) → w.val * (x : Int) ≤ w.val * (j : Int) := by
  intro j hj hb hv
  have m : j ∈ w.nums S v := nums_mem.2 ⟨hj, hb, hv⟩
  have s := nums_sorted w S v
  rw [h] at m s
  rw [List.pairwise_cons] at s
  rcases List.mem_cons.1 m with rfl | q
  · exact Int.le_refl _
  · exact Int.le_of_lt (s.1 j q)
theorem nums_head {w : Dir} {S x : Nat} {v : Int} {r : List Nat} (h : w.nums S v = x :: r) : x < 64 ∧ S.testBit x = true ∧ w.val * v ≤ w.val * (x : Int) := nums_mem.1 (by rw [h]; simp)
theorem nums_len (w : Dir) (S : Nat) (v : Int) : (w.nums S v).length ≤ 64 := by
  refine Nat.le_trans (List.length_filter_le _ _) ?_
  have := Bit.mem_len S
  cases w <;> simp [Dir.ord] <;> omega

/-- the first answer -/
theorem some_first {β : Type} {w : Dir} {S k : Nat} {v : Int} {g : Nat → Option β} {b : β} (h : (w.nums S v).findSome? (fun k => (g k).map (Prod.mk k)) = some (k, b)) :
    k < 64 ∧ S.testBit k = true ∧ w.val * v ≤ w.val * (k : Int) ∧ g k = some b ∧ ∀ j, j < 64 → S.testBit j = true → w.val * v ≤ w.val * (j : Int) → w.val * (j : Int) < w.val * (k : Int) → g j = none := by
  obtain ⟨p, x, q, e, hx, hp⟩ := List.findSome?_eq_some_iff.1 h
  have ex : x = k ∧ g x = some b := by
    cases e' : g x with
    | none => rw [e'] at hx; simp at hx
    | some c => rw [e'] at hx; simp at hx; exact ⟨hx.1, by rw [hx.2]⟩
  obtain ⟨rfl, eb⟩ := ex
  have m := nums_mem.1 (show x ∈ w.nums S v by rw [e]; simp)
  refine ⟨m.1, m.2.1, m.2.2, eb, fun j h1 h2 h3 h4 => ?_⟩
  have mj : j ∈ w.nums S v := nums_mem.2 ⟨h1, h2, h3⟩
  have s := nums_sorted w S v
  rw [e] at mj s
  rw [List.pairwise_append, List.pairwise_cons] at s
  rcases List.mem_append.1 mj with q1 | q1
  · have := hp j q1
    cases e' : g j with
    | none => rfl
    | some c => rw [e'] at this; simp at this
  · rcases List.mem_cons.1 q1 with rfl | q1
    · omega
    · have := s.2.1.1 j q1
      omega
theorem none_first {β : Type} {w : Dir} {S : Nat} {v : Int} {g : Nat → Option β} (h : (w.nums S v).findSome? (fun k => (g k).map (Prod.mk k)) = none) :
    ∀ j, j < 64 → S.testBit j = true → w.val * v ≤ w.val * (j : Int) → g j = none := by
  intro j h1 h2 h3
  have := List.findSome?_eq_none_iff.1 h j (nums_mem.2 ⟨h1, h2, h3⟩)
  cases e' : g j with
  | none => rfl
  | some c => rw [e'] at this; simp at this

/-- the first second, minute and second, hour and minute and second, from those on, in a direction -/
def Dir.fs (w : Dir) (S0 : Nat) (s : Nat) : Option Nat := (w.nums S0 s).head?
def Dir.fm (w : Dir) (S0 S1 : Nat) (i s : Nat) : Option (Nat × Nat) := (w.nums S1 i).findSome? fun m => (w.fs S0 (if m = i then s else w.fst 60)).map (Prod.mk m)
def Dir.fh (w : Dir) (S0 S1 S2 : Nat) (h i s : Nat) : Option (Nat × Nat × Nat) := (w.nums S2 h).findSome? fun k => (w.fm S0 S1 (if k = h then i else w.fst 60) (if k = h then s else w.fst 60)).map (Prod.mk k)
theorem fs_some {w : Dir} {S0 s j : Nat} (h : w.fs S0 s = some j) : j < 64 ∧ S0.testBit j = true ∧ w.val * (s : Int) ≤ w.val * (j : Int) ∧ ∀ k, k < 64 → S0.testBit k = true → w.val * (s : Int) ≤ w.val * (k : Int) → w.val * (j : Int) ≤ w.val * (k : Int) := by
  unfold Dir.fs at h
  cases e : w.nums S0 s with
  | nil => rw [e] at h; cases h
  | cons x r =>
    rw [e] at h
    obtain rfl : x = j := by simpa using h
    have m := nums_head e
    exact ⟨m.1, m.2.1, m.2.2, nums_first e⟩
theorem fs_none {w : Dir} {S0 s : Nat} (h : w.fs S0 s = none) : ∀ k, k < 64 → S0.testBit k = true → ¬ w.val * (s : Int) ≤ w.val * (k : Int) := by
  intro k h1 h2 h3
  unfold Dir.fs at h
  have : k ∈ w.nums S0 s := nums_mem.2 ⟨h1, h2, h3⟩
  rw [List.head?_eq_none_iff.1 h] at this
  simp at this
/-- a minute and a second lie from others on -/
def Dir.le2 (w : Dir) (i s i' s' : Nat) : Prop := w.val * (i : Int) < w.val * (i' : Int) ∨ i = i' ∧ w.val * (s : Int) ≤ w.val * (s' : Int)
def Dir.le3 (w : Dir) (h i s h' i' s' : Nat) : Prop := w.val * (h : Int) < w.val * (h' : Int) ∨ h = h' ∧ w.le2 i s i' s'
theorem fm_none {w : Dir} {S0 S1 i s : Nat} (h : w.fm S0 S1 i s = none) : ∀ i' s', i' < 60 → s' < 60 → S1.testBit i' = true → S0.testBit s' = true → ¬ w.le2 i s i' s' := by
  intro i' s' h1 h2 h3 h4 hl
  have hi : w.val * (i : Int) ≤ w.val * (i' : Int) := by
    rcases hl with hl | ⟨rfl, _⟩
    · omega
    · exact Int.le_refl _
  have q := none_first h i' (by omega) h3 hi
  refine fs_none q s' (by omega) h4 ?_
  rcases hl with hl | ⟨rfl, hl⟩
  · rw [if_neg (by rintro rfl; omega)]
    exact w.fst_le h2
  · rw [if_pos rfl]; exact hl
theorem fm_some {w : Dir} {S0 S1 i s m n : Nat} (h : w.fm S0 S1 i s = some (m, n)) : m < 64 ∧ n < 64 ∧ S1.testBit m = true ∧ S0.testBit n = true ∧ w.le2 i s m n ∧
    ∀ i' s', i' < 60 → s' < 60 → S1.testBit i' = true → S0.testBit s' = true → w.le2 i s i' s' → w.le2 m n i' s' := by
  obtain ⟨a1, a2, a3, a4, a5⟩ := some_first h
  obtain ⟨b1, b2, b3, b4⟩ := fs_some a4
  refine ⟨a1, b1, a2, b2, ?_, ?_⟩
  · by_cases c : m = i
    · subst c
      rw [if_pos rfl] at b3
      exact .inr ⟨rfl, b3⟩
    · exact .inl (by rcases w.val_or with e | e <;> rw [e] at a3 ⊢ <;> omega)
  · intro i' s' h1 h2 h3 h4 hl
    have hi : w.val * (i : Int) ≤ w.val * (i' : Int) := by
      rcases hl with hl | ⟨rfl, _⟩
      · omega
      · exact Int.le_refl _
    have hs' : w.val * ((if i' = i then s else w.fst 60 : Nat) : Int) ≤ w.val * (s' : Int) := by
      rcases hl with hl | ⟨rfl, hl⟩
      · rw [if_neg (by rintro rfl; omega)]
        exact w.fst_le h2
      · rw [if_pos rfl]; exact hl
    rcases Int.lt_trichotomy (w.val * (i' : Int)) (w.val * (m : Int)) with c | c | c
    · exact absurd hs' (fs_none (a5 i' (by omega) h3 hi c) s' (by omega) h4)
    · obtain rfl : i' = m := by rcases w.val_or with e | e <;> rw [e] at c <;> omega
      exact .inr ⟨rfl, b4 s' (by omega) h4 hs'⟩
    · exact .inl c
theorem fh_none {w : Dir} {S0 S1 S2 h i s : Nat} (e : w.fh S0 S1 S2 h i s = none) : ∀ h' i' s', h' < 24 → i' < 60 → s' < 60 → S2.testBit h' = true → S1.testBit i' = true → S0.testBit s' = true → ¬ w.le3 h i s h' i' s' := by
  intro h' i' s' h1 h2 h3 h4 h5 h6 hl
  have hi : w.val * (h : Int) ≤ w.val * (h' : Int) := by
    rcases hl with hl | ⟨rfl, _⟩
    · omega
    · exact Int.le_refl _
  have q := none_first e h' (by omega) h4 hi
  refine fm_none q i' s' h2 h3 h5 h6 ?_
  rcases hl with hl | ⟨rfl, hl⟩
  · have ne : h' ≠ h := by rintro rfl; omega
    rw [if_neg ne, if_neg ne]
    have a := w.fst_le h2
    by_cases c : w.fst 60 = i'
    · exact .inr ⟨c, w.fst_le h3⟩
    · exact .inl (by rcases w.val_or with e | e <;> rw [e] at a ⊢ <;> omega)
  · rw [if_pos rfl, if_pos rfl]; exact hl
theorem fh_some {w : Dir} {S0 S1 S2 h i s k m n : Nat} (e : w.fh S0 S1 S2 h i s = some (k, m, n)) : k < 64 ∧ m < 64 ∧ n < 64 ∧ S2.testBit k = true ∧ S1.testBit m = true ∧ S0.testBit n = true ∧ w.le3 h i s k m n ∧
    ∀ h' i' s', h' < 24 → i' < 60 → s' < 60 → S2.testBit h' = true → S1.testBit i' = true → S0.testBit s' = true → w.le3 h i s h' i' s' → w.le3 k m n h' i' s' := by
  obtain ⟨a1, a2, a3, a4, a5⟩ := some_first e
  obtain ⟨b1, b2, b3, b4, b5, b6⟩ := fm_some a4
  refine ⟨a1, b1, b2, a2, b3, b4, ?_, ?_⟩
  · by_cases c : k = h
    · subst c
      rw [if_pos rfl, if_pos rfl] at b5
      exact .inr ⟨rfl, b5⟩
    · exact .inl (by rcases w.val_or with e | e <;> rw [e] at a3 ⊢ <;> omega)
  · intro h' i' s' h1 h2 h3 h4 h5 h6 hl
    have hi : w.val * (h : Int) ≤ w.val * (h' : Int) := by
      rcases hl with hl | ⟨rfl, _⟩
      · omega
      · exact Int.le_refl _
    have hs' : w.le2 (if h' = h then i else w.fst 60) (if h' = h then s else w.fst 60) i' s' := by
      rcases hl with hl | ⟨rfl, hl⟩
      · have ne : h' ≠ h := by rintro rfl; omega
        rw [if_neg ne, if_neg ne]
        have a := w.fst_le h2
        by_cases c : w.fst 60 = i'
        · exact .inr ⟨c, w.fst_le h3⟩
        · exact .inl (by rcases w.val_or with e | e <;> rw [e] at a ⊢ <;> omega)
      · rw [if_pos rfl, if_pos rfl]; exact hl
    rcases Int.lt_trichotomy (w.val * (h' : Int)) (w.val * (k : Int)) with c | c | c
    · exact absurd hs' (fm_none (a5 h' (by omega) h4 hi c) i' s' h2 h3 h5 h6)
    · obtain rfl : h' = k := by rcases w.val_or with e | e <;> rw [e] at c <;> omega
      exact .inr ⟨rfl, b6 i' s' h2 h3 h5 h6 hs'⟩
    · exact .inl c

/-- the first number with a property from a to b, in a direction, or none -/
def Dir.Fst (w : Dir) (P : Int → Prop) (a b : Int) (r : Option Int) : Prop := match r with
  | some x => w.val * a ≤ w.val * x ∧ w.val * x ≤ w.val * b ∧ P x ∧ ∀ y, w.val * a ≤ w.val * y → w.val * y < w.val * x → ¬ P y
  | none => ∀ y, w.val * a ≤ w.val * y → w.val * y ≤ w.val * b → ¬ P y
theorem fst_up {P : Int → Prop} {a b : Int} {r : Option Int} : Dir.up.Fst P a b r ↔ Least P a b r := by
  cases r with
  | none => simp [Dir.Fst, Least, Dir.val]
  | some x => simp [Dir.Fst, Least, Dir.val]
/-- the sets of hours, minutes and seconds hold numbers of these kinds alone -/
structure Hms (H I S : Nat) : Prop where
  h : ∀ j, H.testBit j = true → j < 24
  i : ∀ j, I.testBit j = true → j < 60
  s : ∀ j, S.testBit j = true → j < 60
def sec3 (p : Nat × Nat × Nat) : Int := 3600 * (p.1 : Int) + 60 * (p.2.1 : Int) + (p.2.2 : Int)
theorem le3_iff {w : Dir} {h i s h' i' s' : Nat} (h2 : i < 60) (h3 : s < 60) (h5 : i' < 60) (h6 : s' < 60) : w.le3 h i s h' i' s' ↔ w.val * (sec3 (h, i, s)) ≤ w.val * (sec3 (h', i', s')) := by
  unfold Dir.le3 Dir.le2 sec3
  cases w <;> simp only [Dir.val] <;> omega
/-- is a second of a day matched -/
def Ck (H I S : Nat) (t : Int) : Prop := 0 ≤ t ∧ t < 86400 ∧ clk H I S t = true
theorem ck_iff {H I S : Nat} {t : Int} : Ck H I S t ↔ ∃ h i s : Nat, h < 24 ∧ i < 60 ∧ s < 60 ∧ H.testBit h = true ∧ I.testBit i = true ∧ S.testBit s = true ∧ t = sec3 (h, i, s) := by
  unfold Ck
  constructor
  · rintro ⟨h0, h1, h2⟩
    refine ⟨(t / 3600).toNat, (t / 60 % 60).toNat, (t % 60).toNat, by omega, by omega, by omega, ?_⟩
    unfold clk at h2
    simp only [Bool.and_eq_true] at h2
    refine ⟨h2.1, h2.2.1, h2.2.2, ?_⟩
    unfold sec3
    simp only
    omega
  · rintro ⟨h, i, s, h1, h2, h3, h4, h5, h6, rfl⟩
    have e : sec3 (h, i, s) = ((3600 * h + 60 * i + s : Nat) : Int) := by unfold sec3; simp only; omega
    refine ⟨by rw [e]; omega, by rw [e]; omega, ?_⟩
    rw [e, clk_at h2 h3, h4, h5, h6]
    rfl
/-- **the first second of a day**, from one on, in a direction -/
theorem fh_is {w : Dir} {H I S : Nat} (hb : Hms H I S) {t : Nat} (_ : t < 86400) : w.Fst (Ck H I S) t (86399 - (w.fst 86400 : Nat) : Int) ((w.fh S I H (t / 3600) (t % 3600 / 60) (t % 60)).map sec3) := by
  have et : sec3 (t / 3600, t % 3600 / 60, t % 60) = t := by unfold sec3; simp only; omega
  have end_ : ∀ y : Int, 0 ≤ y → y < 86400 → w.val * y ≤ w.val * (86399 - (w.fst 86400 : Nat) : Int) := fun y a b => by cases w <;> simp [Dir.val, Dir.fst] <;> omega
  cases e : w.fh S I H (t / 3600) (t % 3600 / 60) (t % 60) with
  | none =>
    intro y h1 _ h3
    obtain ⟨h, i, s, g1, g2, g3, g4, g5, g6, rfl⟩ := ck_iff.1 h3
    refine fh_none e h i s g1 g2 g3 g4 g5 g6 ((le3_iff (by omega) (by omega) g2 g3).2 ?_)
    rw [et]; exact h1
  | some p =>
    obtain ⟨k, m, n⟩ := p
    obtain ⟨_, _, _, a4, a5, a6, a7, a8⟩ := fh_some e
    have k1 := hb.h k a4; have m1 := hb.i m a5; have n1 := hb.s n a6
    have c : Ck H I S (sec3 (k, m, n)) := ck_iff.2 ⟨k, m, n, k1, m1, n1, a4, a5, a6, rfl⟩
    have l := (le3_iff (by omega) (by omega) m1 n1).1 a7
    rw [et] at l
    refine ⟨l, end_ _ c.1 c.2.1, c, ?_⟩
    intro y h1 h2 h3
    obtain ⟨h, i, s, g1, g2, g3, g4, g5, g6, rfl⟩ := ck_iff.1 h3
    have q := a8 h i s g1 g2 g3 g4 g5 g6 ((le3_iff (by omega) (by omega) g2 g3).2 (by rw [et]; exact h1))
    have q := (le3_iff m1 n1 g2 g3).1 q
    omega
end Go.Proofs.YtljackjcgfaanaaGreatDoor.Mat
/- Plain facts of three loops, one in another, that look for the first second of a day: what they find is the first one. -/
namespace Go.Proofs.YtljackjcgfaanaaGreatDoor.Mat

/-- the loop over minutes: the second from which it looks, what it finds, and the second that it leaves behind -/
def Dir.goM (w : Dir) (S0 i : Nat) : List Nat → Nat → Option (Nat × Nat) × Nat
  | [], s => (none, s)
  | m :: r, s => match w.fs S0 (if m = i then s else w.fst 60) with
    | some n => (some (m, n), 0)
    | none => w.goM S0 i r (if m = i then s else w.fst 60)
/-- the loop over hours -/
def Dir.goH (w : Dir) (S0 S1 h : Nat) : List Nat → Nat → Nat → Option (Nat × Nat × Nat)
  | [], _, _ => none
  | k :: r, i, s => match w.goM S0 (if k = h then i else w.fst 60) (w.nums S1 (if k = h then i else w.fst 60 : Nat)) (if k = h then s else w.fst 60) with
    | (some p, _) => some (k, p)
    | (none, s') => w.goH S0 S1 h r (if k = h then i else w.fst 60) s'
theorem goM_other {w : Dir} {S0 i : Nat} : ∀ {l : List Nat} (s : Nat), (∀ m ∈ l, m ≠ i) → (w.goM S0 i l s).1 = l.findSome? fun m => (w.fs S0 (if m = i then s else w.fst 60)).map (Prod.mk m)
  | [], _, _ => rfl
  | m :: r, s, h => by
    have e : m ≠ i := h m (by simp)
    have ih := fun s => goM_other (w := w) (S0 := S0) (i := i) (l := r) s (fun k hk => h k (by simp [hk]))
    rw [Dir.goM, List.findSome?_cons, if_neg e]
    cases w.fs S0 (w.fst 60) with
    | none =>
      simp only [Option.map_none]
      rw [ih]
      have : ∀ l : List Nat, (∀ k ∈ l, k ≠ i) → ∀ s1 s2, l.findSome? (fun m => (w.fs S0 (if m = i then s1 else w.fst 60)).map (Prod.mk m)) = l.findSome? (fun m => (w.fs S0 (if m = i then s2 else w.fst 60)).map (Prod.mk m)) := by
        intro l hl s1 s2
        induction l with
        | nil => rfl
        | cons a l ih =>
          rw [List.findSome?_cons, List.findSome?_cons, if_neg (hl a (by simp)), if_neg (hl a (by simp)), ih (fun k hk => hl k (by simp [hk]))]
      exact this r (fun k hk => h k (by simp [hk])) _ _
    | some n => rfl
theorem nums_tail {w : Dir} {S : Nat} {v : Nat} {x : Nat} {r : List Nat} (h : w.nums S v = x :: r) : ∀ m ∈ r, m ≠ v := by
  have s := nums_sorted w S v
  have q := (nums_head h).2.2
  rw [h, List.pairwise_cons] at s
  intro m hm e
  have := s.1 m hm
  rw [e] at this
  omega
theorem goM_is (w : Dir) (S0 S1 i s : Nat) : (w.goM S0 i (w.nums S1 i) s).1 = w.fm S0 S1 i s := by
  unfold Dir.fm
  cases h : w.nums S1 i with
  | nil => rfl
  | cons m r =>
    have t := nums_tail h
    rw [Dir.goM, List.findSome?_cons]
    cases e : w.fs S0 (if m = i then s else w.fst 60) with
    | some n => rfl
    | none =>
      simp only [Option.map_none]
      rw [goM_other _ t]
      have : ∀ l : List Nat, (∀ k ∈ l, k ≠ i) → ∀ s1 s2, l.findSome? (fun m => (w.fs S0 (if m = i then s1 else w.fst 60)).map (Prod.mk m)) = l.findSome? (fun m => (w.fs S0 (if m = i then s2 else w.fst 60)).map (Prod.mk m)) := by
        intro l hl s1 s2
        induction l with
        | nil => rfl
        | cons a l ih =>
          rw [List.findSome?_cons, List.findSome?_cons, if_neg (hl a (by simp)), if_neg (hl a (by simp)), ih (fun k hk => hl k (by simp [hk]))]
      exact this r t _ _
theorem goH_other {w : Dir} {S0 S1 h : Nat} : ∀ {l : List Nat} (i s : Nat), (∀ k ∈ l, k ≠ h) → w.goH S0 S1 h l i s = l.findSome? fun k => (w.fm S0 S1 (w.fst 60) (w.fst 60)).map (Prod.mk k)
  | [], _, _, _ => rfl
  | k :: r, i, s, hk => by
    have e : k ≠ h := hk k (by simp)
    have ih := fun i s => goH_other (w := w) (S0 := S0) (S1 := S1) (h := h) (l := r) i s (fun k hk' => hk k (by simp [hk']))
    rw [Dir.goH, List.findSome?_cons, if_neg e, if_neg e]
    have g := goM_is w S0 S1 (w.fst 60) (w.fst 60)
    cases e2 : w.goM S0 (w.fst 60) (w.nums S1 (w.fst 60 : Nat)) (w.fst 60) with
    | mk a b =>
      rw [e2] at g
      simp only at g
      cases a with
      | some p => rw [← g]; rfl
      | none => simp only [← g, Option.map_none]; rw [ih]; simp only [← g, Option.map_none]
theorem goH_is (w : Dir) (S0 S1 S2 h i s : Nat) : w.goH S0 S1 h (w.nums S2 h) i s = w.fh S0 S1 S2 h i s := by
  unfold Dir.fh
  cases hn : w.nums S2 h with
  | nil => rfl
  | cons k r =>
    have t := nums_tail hn
    rw [Dir.goH, List.findSome?_cons]
    have g := goM_is w S0 S1 (if k = h then i else w.fst 60) (if k = h then s else w.fst 60)
    cases e2 : w.goM S0 (if k = h then i else w.fst 60) (w.nums S1 (if k = h then i else w.fst 60 : Nat)) (if k = h then s else w.fst 60) with
    | mk a b =>
      rw [e2] at g
      simp only at g
      cases a with
      | some p => rw [← g]; rfl
      | none =>
        rw [← g]
        simp only [Option.map_none]
        rw [goH_other _ _ t]
        have : ∀ l : List Nat, (∀ k ∈ l, k ≠ h) → l.findSome? (fun k => (w.fm S0 S1 (w.fst 60) (w.fst 60)).map (Prod.mk k)) = l.findSome? (fun k => (w.fm S0 S1 (if k = h then i else w.fst 60) (if k = h then s else w.fst 60)).map (Prod.mk k)) := by
          intro l hl
          induction l with
          | nil => rfl
          | cons a l ih =>
            rw [List.findSome?_cons, List.findSome?_cons, if_neg (hl a (by simp)), if_neg (hl a (by simp)), ih (fun k hk => hl k (by simp [hk]))]
        exact this r t
end Go.Proofs.YtljackjcgfaanaaGreatDoor.Mat
