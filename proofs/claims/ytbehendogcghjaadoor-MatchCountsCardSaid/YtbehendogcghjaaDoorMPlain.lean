/- Plain mathematics of sets of the numbers from 0 to 63: members, lists, ranges, runs. No program stands here. Contracts of below, exists, only, Inside, Has, of package bits and of the document's: what each call returns; the world stays. Plain mathematics of fields of crontab expressions: numbers and names as they are read, items, lists of items, what is wrong with them, and their sets. No program stands here. -/
import Derived.Test.YtbehendogcghjaaDoorProg
import Derived.WalkKit
import Derived.ProofKit
import Derived.Lib.Hide
import Derived.Laws.Shifts
import Derived.Laws.BitsAllLaws
/- Plain mathematics of sets of the numbers from 0 to 63: members, lists, ranges, runs. No program stands here. -/
namespace Go.Proofs.YtbehendogcghjaaDoor.Bit
theorem ext64 {S T : Nat} (hS : S < 2 ^ 64) (hT : T < 2 ^ 64) (h : ∀ v, v < 64 → S.testBit v = T.testBit v) : S = T := by
  apply Nat.eq_of_testBit_eq
  intro v
  by_cases c : v < 64
  · exact h v c
  · rw [Nat.testBit_lt_two_pow (Nat.lt_of_lt_of_le hS (Nat.pow_le_pow_right (by decide) (by omega))), Nat.testBit_lt_two_pow (Nat.lt_of_lt_of_le hT (Nat.pow_le_pow_right (by decide) (by omega)))]
theorem bit_one (v w : Nat) : (2 ^ v).testBit w = decide (v = w) := by
  rw [Nat.testBit_two_pow]
theorem or_lt {S T : Nat} (hS : S < 2 ^ 64) (hT : T < 2 ^ 64) : S ||| T < 2 ^ 64 := Nat.or_lt_two_pow hS hT
theorem one_lt {v : Nat} (h : v < 64) : 2 ^ v < 2 ^ 64 := Nat.pow_lt_pow_right (by decide) h
/-- the numbers of a set from v on, below 64 -/
def memFrom (S : Nat) (v n : Nat) : List Nat := (List.range' v n).filter (S.testBit ·)
/-- the numbers of a set -/
def mem (S : Nat) : List Nat := memFrom S 0 64
theorem mem_iff {S v : Nat} : v ∈ mem S ↔ v < 64 ∧ S.testBit v = true := by
  unfold mem memFrom
  simp [List.mem_filter, List.mem_range']
/-- the numbers below k -/
def memTo (S k : Nat) : List Nat := (List.range' 0 k).filter (S.testBit ·)
theorem memTo_succ (S k : Nat) : memTo S (k + 1) = if S.testBit k then memTo S k ++ [k] else memTo S k := by
  unfold memTo
  rw [List.range'_concat, List.filter_append]
  simp only [Nat.zero_add, Nat.one_mul]
  by_cases c : S.testBit k = true
  · simp [c]
  · simp [c]
theorem memTo_all (S : Nat) : memTo S 64 = mem S := rfl
theorem memTo_len (S k : Nat) : (memTo S k).length ≤ k := by
  unfold memTo
  exact Nat.le_trans (List.length_filter_le _ _) (by simp)
theorem mem_len (S : Nat) : (mem S).length ≤ 64 := memTo_len S 64
theorem mem_sorted (S : Nat) : (mem S).Pairwise (· < ·) := List.Pairwise.filter _ List.pairwise_lt_range'
theorem mem_lt {S v : Nat} (h : v ∈ mem S) : v < 64 := (mem_iff.1 h).1
/-- two increasing lists with the same members are the same -/
theorem sorted_ext : ∀ {l m : List Nat}, l.Pairwise (· < ·) → m.Pairwise (· < ·) → (∀ v, v ∈ l ↔ v ∈ m) → l = m
  | [], [], _, _, _ => rfl
  | [], b :: m, _, _, h => by simpa using (h b).2 (by simp)
  | a :: l, [], _, _, h => by simpa using (h a).1 (by simp)
  | a :: l, b :: m, hl, hm, h => by
    rw [List.pairwise_cons] at hl hm
    have e : a = b := by
      have h1 := (h a).1 (by simp)
      have h2 := (h b).2 (by simp)
      rw [List.mem_cons] at h1 h2
      rcases h1 with h1 | h1
      · exact h1
      · rcases h2 with h2 | h2
        · exact h2.symm
        · have := hm.1 a h1; have := hl.1 b h2; omega
    subst e
    congr 1
    refine sorted_ext hl.2 hm.2 fun v => ?_
    have := h v
    rw [List.mem_cons, List.mem_cons] at this
    constructor
    · intro k
      rcases this.1 (.inr k) with rfl | k'
      · exact absurd (hl.1 v k) (by omega)
      · exact k'
    · intro k
      rcases this.2 (.inr k) with rfl | k'
      · exact absurd (hm.1 v k) (by omega)
      · exact k'

/-- how many of the numbers that follow keep the distance -/
def keep (step prev : Nat) : List Nat → Nat
  | [] => 0
  | x :: r => if x - prev = step then keep step x r + 1 else 0
def step1 : List Nat → Nat
  | a :: b :: r => if keep (b - a) b r = 0 ∧ 1 < b - a then 1 else b - a
  | _ => 1
/-- the numbers lo, lo + step, .. , n of them -/
def nums (lo step n : Nat) : List Nat := (List.range n).map fun k => lo + k * step
theorem nums_len (lo step n : Nat) : (nums lo step n).length = n := by simp [nums]
def ofL (S : Nat) (l : List Nat) : Nat := l.foldl (fun s v => s ||| 2 ^ v) S
theorem ofL_bit (l : List Nat) (S v : Nat) : (ofL S l).testBit v = (S.testBit v || decide (v ∈ l)) := by
  induction l generalizing S with
  | nil => simp [ofL]
  | cons a l ih =>
    show (ofL (S ||| 2 ^ a) l).testBit v = _
    rw [ih, Nat.testBit_or, bit_one]
    by_cases c : a = v
    · subst c; simp
    · have : ¬ v = a := fun h => c h.symm
      simp [c, this]
theorem ofL_lt (l : List Nat) (S : Nat) (hS : S < 2 ^ 64) (h : ∀ v ∈ l, v < 64) : ofL S l < 2 ^ 64 := by
  induction l generalizing S with
  | nil => exact hS
  | cons a l ih =>
    show ofL (S ||| 2 ^ a) l < 2 ^ 64
    exact ih _ (or_lt hS (one_lt (h a (by simp)))) (fun v hv => h v (by simp [hv]))
/-- the set of a range -/
def rangeS (lo hi step : Nat) : Nat := ofL 0 (nums lo step ((hi - lo) / step + 1))
theorem nums_mem {lo step n v : Nat} : v ∈ nums lo step n ↔ ∃ k, k < n ∧ v = lo + k * step := by
  unfold nums
  simp only [List.mem_map, List.mem_range]
  constructor
  · rintro ⟨k, a, b⟩; exact ⟨k, a, b.symm⟩
  · rintro ⟨k, a, b⟩; exact ⟨k, a, b.symm⟩
theorem nums_range {lo hi step v : Nat} (h : lo ≤ hi) (s : 1 ≤ step) : v ∈ nums lo step ((hi - lo) / step + 1) ↔ lo ≤ v ∧ v ≤ hi ∧ (v - lo) % step = 0 := by
  rw [nums_mem]
  constructor
  · rintro ⟨k, a, rfl⟩
    have k1 : k ≤ (hi - lo) / step := by omega
    have := (Nat.le_div_iff_mul_le (by omega)).1 k1
    refine ⟨by omega, by omega, ?_⟩
    rw [Nat.add_sub_cancel_left]; exact Nat.mul_mod_left k step
  · rintro ⟨a, b, c⟩
    refine ⟨(v - lo) / step, ?_, ?_⟩
    · have := Nat.div_le_div_right (c := step) (show v - lo ≤ hi - lo by omega)
      omega
    · have := Nat.div_add_mod (v - lo) step
      rw [Nat.mul_comm] at this
      omega
theorem nums_sorted (lo step n : Nat) (s : 1 ≤ step) : (nums lo step n).Pairwise (· < ·) := by
  rw [List.pairwise_iff_getElem]
  intro i j hi hj hij
  simp only [nums, List.getElem_map, List.getElem_range]
  have := Nat.mul_lt_mul_of_pos_right hij (show 0 < step by omega)
  omega
theorem rangeS_bit {lo hi step v : Nat} (h : lo ≤ hi) (s : 1 ≤ step) : (rangeS lo hi step).testBit v = decide (lo ≤ v ∧ v ≤ hi ∧ (v - lo) % step = 0) := by
  unfold rangeS
  rw [ofL_bit, Nat.zero_testBit, Bool.false_or]
  by_cases c : v ∈ nums lo step ((hi - lo) / step + 1)
  · simp only [c, decide_true]; exact (decide_eq_true ((nums_range h s).1 c)).symm
  · simp only [c, decide_false]; exact (decide_eq_false (fun k => c ((nums_range h s).2 k))).symm
theorem rangeS_lt {lo hi step : Nat} (h : lo ≤ hi) (s : 1 ≤ step) (hh : hi < 64) : rangeS lo hi step < 2 ^ 64 :=
  ofL_lt _ _ (by decide) (fun v hv => by have := (nums_range h s).1 hv; omega)
end Go.Proofs.YtbehendogcghjaaDoor.Bit
/- Contracts of below, exists, only, Inside, Has, of package bits and of the document's: what each call returns; the world stays. -/
namespace Go.Proofs.YtbehendogcghjaaDoor
open Go.RowKit

theorem ret_int {k : IntKind} {a b : Int} (h : a = b) : Ending.returned (.int k a) = .returned (.int k b) := by rw [h]
theorem ret_bool {a b : Bool} (h : a = b) : Ending.returned (.bool a) = .returned (.bool b) := by rw [h]

theorem wrap_pow {k : Nat} (h : k < 64) : IntKind.u64.wrap ((2 : Int) ^ k) = ((2 ^ k : Nat) : Int) := by
  have e : ((2 : Int) ^ k) = ((2 ^ k : Nat) : Int) := by simp
  have b := Bit.one_lt h
  rw [e, IntKind.wrap_u64]
  generalize 2 ^ k = m at b
  omega
/-- the set of the numbers below v -/
def low (v : Int) : Nat := 2 ^ (min v.toNat 64) - 1
theorem low_lt (v : Int) : low v < 2 ^ 64 := by
  unfold low
  have := Nat.pow_le_pow_right (n := 2) (by decide) (Nat.min_le_right v.toNat 64)
  have := Nat.two_pow_pos (min v.toNat 64)
  omega
theorem low_bit (v : Int) (j : Nat) : (low v).testBit j = decide (j < 64 ∧ (j : Int) < v) := by
  unfold low
  rw [Nat.testBit_two_pow_sub_one]
  congr 1
  apply propext
  omega
/-- without the numbers below v -/
def from_ (S : Nat) (v : Int) : Nat := S &&& (18446744073709551615 - low v)
theorem not_bit {T : Nat} (hT : T < 2 ^ 64) (j : Nat) : (18446744073709551615 - T).testBit j = (decide (j < 64) && !T.testBit j) := by
  have e : 18446744073709551615 - T = 2 ^ 64 - (T + 1) := by omega
  rw [e, Nat.testBit_two_pow_sub_succ hT]
theorem set_hi {S : Nat} (hS : S < 2 ^ 64) {j : Nat} (h : S.testBit j = true) : j < 64 := by
  by_cases c : j < 64
  · exact c
  · rw [Nat.testBit_lt_two_pow (Nat.lt_of_lt_of_le hS (Nat.pow_le_pow_right (by decide) (by omega)))] at h
    cases h
theorem from_bit {S : Nat} (hS : S < 2 ^ 64) (v : Int) (j : Nat) : (from_ S v).testBit j = (S.testBit j && decide (v ≤ j)) := by
  unfold from_
  rw [Nat.testBit_and, not_bit (low_lt v), low_bit]
  by_cases c : S.testBit j = true
  · have := set_hi hS c
    rw [c]
    by_cases d : (j : Int) < v
    · have d' : ¬ v ≤ j := by omega
      simp [d, d', this]
    · have d' : v ≤ j := by omega
      simp [d, d', this]
  · have c : S.testBit j = false := by simpa using c
    rw [c]; rfl
theorem from_lt {S : Nat} (hS : S < 2 ^ 64) (v : Int) : from_ S v < 2 ^ 64 := Nat.lt_of_le_of_lt Nat.and_le_left hS
/-- the numbers below v alone -/
def upto (S : Nat) (v : Int) : Nat := S &&& low v
theorem upto_bit {S : Nat} (hS : S < 2 ^ 64) (v : Int) (j : Nat) : (upto S v).testBit j = (S.testBit j && decide ((j : Int) < v)) := by
  unfold upto
  rw [Nat.testBit_and, low_bit]
  by_cases c : S.testBit j = true
  · have := set_hi hS c
    rw [c]
    simp [this]
  · have c : S.testBit j = false := by simpa using c
    rw [c]; rfl
theorem upto_lt {S : Nat} (hS : S < 2 ^ 64) (v : Int) : upto S v < 2 ^ 64 := Nat.lt_of_le_of_lt Nat.and_le_left hS

theorem below_neg (v : Int) (w : World) (h : v ≤ 0) :
    Calls Tryd.prog 81 #[.int .i64 v] w fun e w' => e = .returned (.int .u64 0) ∧ w = w' := by
  by_cases c : v = 0
  · subst c
    go_enter Tryd.func81, Tryd.ntmps81
    go_wp2
    go_ret; exact ⟨rfl, rfl⟩
  · have h' : v < 0 := by omega
    clear h c
    go_enter Tryd.func81, Tryd.ntmps81
    go_wp2
    go_ret; exact ⟨rfl, rfl⟩
theorem below_mid (v : Int) (w : World) (h : 0 < v) (h1 : v < 64) :
    Calls Tryd.prog 81 #[.int .i64 v] w fun e w' => e = .returned (.int .u64 ((2 ^ v.toNat - 1 : Nat) : Int)) ∧ w = w' := by
  go_enter Tryd.func81, Tryd.ntmps81
  go_wp2
  go_ret
  refine ⟨ret_int ?_, rfl⟩
  have k : v.toNat < 64 := by omega
  rw [wrap_pow k, IntKind.wrap_u64]
  have := Bit.one_lt k
  have := Nat.two_pow_pos v.toNat
  omega
theorem below_big (v : Int) (w : World) (h : 64 ≤ v) (h1 : v ≤ 9223372036854775807) :
    Calls Tryd.prog 81 #[.int .i64 v] w fun e w' => e = .returned (.int .u64 18446744073709551615) ∧ w = w' := by
  have h0 : 0 ≤ v := by omega
  have hm : min v.toNat 64 = 64 := by omega
  have hm' : min v.toNat IntKind.u64.bits = 64 := hm
  go_enter Tryd.func81, Tryd.ntmps81
  go_wp2
  go_ret
  exact ⟨rfl, rfl⟩
theorem below_any (v : Int) (w : World) (h1 : v ≤ 9223372036854775807) :
    Calls Tryd.prog 81 #[.int .i64 v] w fun e w' => e = .returned (.int .u64 (low v : Nat)) ∧ w = w' := by
  by_cases a : v ≤ 0
  · have e : low v = 0 := by unfold low; rw [show min v.toNat 64 = 0 by omega]
    rw [e]; exact below_neg v w a
  · by_cases b : v < 64
    · have e : low v = 2 ^ v.toNat - 1 := by unfold low; rw [show min v.toNat 64 = v.toNat by omega]
      rw [e]; exact below_mid v w (by omega) b
    · have e : low v = 18446744073709551615 := by unfold low; rw [show min v.toNat 64 = 64 by omega]
      rw [e]; exact below_big v w (by omega) h1
theorem exists_t (v : Int) (w : World) (h0 : 0 ≤ v) (h1 : v < 64) :
    Calls Tryd.prog 90 #[.int .i64 v] w fun e w' => e = .returned (.bool true) ∧ w = w' := by
  go_enter Tryd.func90, Tryd.ntmps90
  go_wp2
  go_ret
  exact ⟨rfl, rfl⟩
theorem exists_f (v : Int) (w : World) (h : v < 0 ∨ 64 ≤ v) :
    Calls Tryd.prog 90 #[.int .i64 v] w fun e w' => e = .returned (.bool false) ∧ w = w' := by
  rcases h with h | h
  · have d : decide (0 ≤ v) = false := by simp; omega
    go_enter Tryd.func90, Tryd.ntmps90
    go_wp2
    go_ret
    exact ⟨rfl, rfl⟩
  · have d0 : decide (0 ≤ v) = true := by simp; omega
    have d : decide (v < 64) = false := by simp; omega
    go_enter Tryd.func90, Tryd.ntmps90
    go_wp2
    go_ret
    exact ⟨rfl, rfl⟩
theorem only_any (v : Nat) (w : World) (h : v < 64) :
    Calls Tryd.prog 91 #[.int .i64 v] w fun e w' => e = .returned (.int .u64 ((2 ^ v : Nat) : Int)) ∧ w = w' := by
  go_enter Tryd.func91, Tryd.ntmps91
  go_wp2
  go_ret
  exact ⟨ret_int (wrap_pow h), rfl⟩

/-- are all numbers of A in B? -/
def subB (A B : Nat) : Bool := decide (A &&& B = A)
theorem sub_all {A B : Nat} (hA : A < 2 ^ 64) : subB A B = true ↔ ∀ j, j < 64 → A.testBit j = true → B.testBit j = true := by
  unfold subB
  rw [decide_eq_true_iff]
  constructor
  · intro h j hj ha
    rw [← h, Nat.testBit_and, Bool.and_eq_true] at ha
    exact ha.2
  · intro h
    apply Bit.ext64 (Nat.lt_of_le_of_lt Nat.and_le_left hA) hA
    intro j hj
    rw [Nat.testBit_and]
    by_cases c : A.testBit j = true
    · rw [h j hj c]; simp
    · have c : A.testBit j = false := by simpa using c
      rw [c]; rfl
theorem sub_iff {A B : Nat} (hA : A < 2 ^ 64) (hB : B < 2 ^ 64) : A &&& (18446744073709551615 - B) = 0 ↔ subB A B = true := by
  rw [sub_all hA]
  constructor
  · intro h j hj ha
    have : (A &&& (18446744073709551615 - B)).testBit j = false := by rw [h]; exact Nat.zero_testBit j
    rw [Nat.testBit_and, not_bit hB, ha] at this
    simpa [hj] using this
  · intro h
    apply Bit.ext64 (Nat.lt_of_le_of_lt Nat.and_le_left hA) (by decide)
    intro j hj
    rw [Nat.testBit_and, not_bit hB, Nat.zero_testBit]
    by_cases c : A.testBit j = true
    · rw [h j hj c]; simp
    · have c : A.testBit j = false := by simpa using c
      rw [c]; rfl
theorem inside_any (A B : Nat) (w : World) (hA : A < 2 ^ 64) (hB : B < 2 ^ 64) :
    Calls Tryd.prog 62 #[.int .u64 A, .int .u64 B] w fun e w' => e = .returned (.bool (subB A B)) ∧ w = w' := by
  have k := sub_iff hA hB
  have e : bits .andNot .u64 (A : Int) (B : Int) = ((A &&& (18446744073709551615 - B) : Nat) : Int) := u64_andNot_nat A B hA hB
  have d : ((A &&& (18446744073709551615 - B) : Nat) == 0) = subB A B := by
    cases hs : subB A B with
    | true => rw [hs] at k; simpa using k
    | false => rw [hs] at k; simpa using k
  obtain ⟨z, hz⟩ : ∃ z, A &&& (18446744073709551615 - B) = z := ⟨_, rfl⟩
  rw [hz] at e d
  have d' : (((z : Nat) : Int) == 0) = subB A B := by rw [← d]; cases z <;> simp <;> omega
  obtain ⟨t, ht⟩ : ∃ t, subB A B = t := ⟨_, rfl⟩
  rw [ht] at d' ⊢
  clear k d hz ht
  go_enter Tryd.func62, Tryd.ntmps62
  go_wp2
  go_ret
  exact ⟨rfl, rfl⟩
def hasB (S : Nat) (v : Int) : Bool := decide (0 ≤ v ∧ v < 64) && S.testBit v.toNat
theorem has_nat {S : Nat} (hS : S < 2 ^ 64) (j : Nat) : hasB S j = S.testBit j := by
  unfold hasB
  by_cases c : S.testBit j = true
  · have := set_hi hS c
    have d : (0 ≤ (j : Int) ∧ (j : Int) < 64) := by omega
    simp [d, c]
  · have c : S.testBit j = false := by simpa using c
    simp [c]
theorem sub_one {S v : Nat} (h : v < 64) : subB (2 ^ v) S = S.testBit v := by
  have k := sub_all (B := S) (Bit.one_lt h)
  by_cases c : S.testBit v = true
  · rw [c, k]
    intro j _ hj
    rw [Bit.bit_one] at hj
    have : v = j := by simpa using hj
    rw [← this]; exact c
  · have e : ¬ subB (2 ^ v) S = true := by
      rw [k]
      intro q
      exact c (q v h (by rw [Bit.bit_one]; simp))
    have c : S.testBit v = false := by simpa using c
    rw [c]
    simpa using e
theorem has_any (S : Nat) (v : Int) (w : World) (hS : S < 2 ^ 64) :
    Calls Tryd.prog 72 #[.int .u64 S, .int .i64 v] w fun e w' => e = .returned (.bool (hasB S v)) ∧ w = w' := by
  by_cases c : 0 ≤ v ∧ v < 64
  · obtain ⟨n, rfl⟩ := Int.eq_ofNat_of_zero_le c.1
    have n64 : n < 64 := by omega
    have X := Lib.hid (fun w => exists_t (n : Int) w c.1 c.2)
    have O := Lib.hid (fun w => only_any n w n64)
    have I := Lib.hid (fun w => inside_any (2 ^ n) S w (Bit.one_lt n64) hS)
    have E : hasB S n = subB (2 ^ n) S := by rw [sub_one n64, has_nat hS]
    obtain ⟨t, ht⟩ : ∃ t, subB (2 ^ n) S = t := ⟨_, rfl⟩
    obtain ⟨m, hm⟩ : ∃ m : Nat, 2 ^ n = m := ⟨_, rfl⟩
    rw [E, ht]
    rw [ht, hm] at I
    rw [hm] at O
    clear E ht c n64 hm
    go_enter Tryd.func72, Tryd.ntmps72
    go_wp2_with fail
    refine (X.out _).mono ?_
    rintro e w1 ⟨rfl, rfl⟩
    go_wp2_with fail
    refine (O.out _).mono ?_
    rintro e w1 ⟨rfl, rfl⟩
    go_wp2_with fail
    refine (I.out _).mono ?_
    rintro e w1 ⟨rfl, rfl⟩
    go_wp2_with fail
    go_ret
    exact ⟨rfl, rfl⟩
  · have E : hasB S v = false := by unfold hasB; simp [c]
    have X := Lib.hid (fun w => exists_f v w (by omega))
    rw [E]
    clear E c
    go_enter Tryd.func72, Tryd.ntmps72
    go_wp2_with fail
    refine (X.out _).mono ?_
    rintro e w1 ⟨rfl, rfl⟩
    go_wp2_with fail
    go_ret
    exact ⟨rfl, rfl⟩
theorem hasR_any (S : Nat) (v : Int) (w : World) (hS : S < 2 ^ 64) :
    Calls Tryd.prog 55 #[.int .u64 S, .int .i64 v] w fun e w' => e = .returned (.bool (hasB S v)) ∧ w = w' := by
  by_cases c : 0 ≤ v ∧ v < 64
  · obtain ⟨n, rfl⟩ := Int.eq_ofNat_of_zero_le c.1
    have n64 : n < 64 := by omega
    have d0 : decide (0 ≤ (n : Int)) = true := by simp
    have d1 : decide ((n : Int) ≤ 63) = true := by simp; omega
    have n0 : (0 : Int) ≤ n := by omega
    have q : (S : Int) / 2 ^ n = ((S / 2 ^ n : Nat) : Int) := by simp
    have q1 : S / 2 ^ n < 2 ^ 64 := Nat.lt_of_le_of_lt (Nat.div_le_self _ _) hS
    have r : (bits .and .u64 ((S : Int) / 2 ^ n) 1 == 1) = S.testBit n := by
      rw [q, show bits .and .u64 ((S / 2 ^ n : Nat) : Int) 1 = ((S / 2 ^ n &&& 1 : Nat) : Int) from u64_and_nat (S / 2 ^ n) 1 q1 (by decide), Nat.and_one_is_mod, Nat.testBit_eq_decide_div_mod_eq]
      clear q q1
      generalize S / 2 ^ n = z
      by_cases c : z % 2 = 1
      · simp [c]
      · have : z % 2 = 0 := by omega
        simp [this]
    rw [has_nat hS n]
    have R := Lib.hid r
    clear r q q1 c
    go_enter Tryd.func55, Tryd.ntmps55
    go_wp2
    go_ret
    exact ⟨ret_bool R.out, rfl⟩
  · have E : hasB S v = false := by unfold hasB; simp [c]
    rw [E]
    by_cases k : 0 ≤ v
    · have d1 : decide (v ≤ 63) = false := by simp; omega
      clear E c
      go_enter Tryd.func55, Tryd.ntmps55
      go_wp2
      go_ret
      exact ⟨rfl, rfl⟩
    · have d1 : decide (0 ≤ v) = false := by simp; omega
      clear E c
      go_enter Tryd.func55, Tryd.ntmps55
      go_wp2
      go_ret
      exact ⟨rfl, rfl⟩
end Go.Proofs.YtbehendogcghjaaDoor
/- Plain mathematics of fields of crontab expressions: numbers and names as they are read, items, lists of items, what is wrong with them, and their sets. No program stands here. -/
namespace Go.Proofs.YtbehendogcghjaaDoor.Fld

def upN (c : Nat) : Bool := decide (65 ≤ c ∧ c ≤ 90)
def loN (c : Nat) : Bool := decide (97 ≤ c ∧ c ≤ 122)
def letN (c : Nat) : Bool := upN c || loN c
def digN (c : Nat) : Bool := decide (48 ≤ c ∧ c ≤ 57)
def isLet (c : UInt8) : Bool := letN c.toNat
def isDig (c : UInt8) : Bool := digN c.toNat
def isUp (c : UInt8) : Bool := upN c.toNat
/-- a letter in upper case -/
def up (c : UInt8) : UInt8 := if loN c.toNat then (c.toNat - 32).toUInt8 else c

/-- a kind whose numbers are not below 0 -/
structure Kd where
  lo : Nat
  hi : Nat
  names : List (List UInt8)
  week : Bool
/-- a kind that is valid -/
structure Kd.Ok (K : Kd) : Prop where
  le : K.lo ≤ K.hi
  hi : K.hi ≤ 62
  week : K.week = true → K.lo = 0 ∧ K.hi = 6
  count : K.names = [] ∨ K.names.length = K.hi - K.lo + 1
  ups : ∀ s ∈ K.names, 1 ≤ s.length ∧ s.length ≤ 9 ∧ ∀ c ∈ s, isUp c = true
  diff : K.names.Pairwise (· ≠ ·)

def digs (l : List UInt8) : List UInt8 := (l.takeWhile isDig).take 2
def val (d : List UInt8) : Nat := d.foldl (fun a c => 10 * a + (c.toNat - 48)) 0
/-- a number, and how many bytes it has -/
def num (l : List UInt8) : Option (Nat × Nat) := if digs l = [] then none else some (val (digs l), (digs l).length)
def lets (l : List UInt8) : List UInt8 := l.takeWhile isLet
def look (names : List (List UInt8)) (u : List UInt8) : Option Nat := names.findIdx? (fun s => s == u.map up)
/-- a number or a name, and how many bytes it has -/
def value (K : Kd) (l : List UInt8) : Option (Nat × Nat) := if lets l = [] then num l else (look K.names (lets l)).map fun i => (K.lo + i, (lets l).length)
/-- an item: its first number, its last one, its step, and where they stand -/
structure It where
  f : Nat
  fa : Nat
  s : Nat
  sa : Nat
  t : Nat
  ta : Nat
/-- an item, the place behind it, and what is left; or the place at which there is none -/
abbrev Res : Type := (It × Nat × List UInt8) ⊕ Nat
def rStep (x : It) (l : List UInt8) (p : Nat) : Res :=
  match num l with
  | none => .inr p
  | some (n, k) => .inl ({ x with t := n, ta := p }, p + k, l.drop k)
def rNums (x : It) (l : List UInt8) (p : Nat) : Res := if l.head? = some 47 then rStep x l.tail (p + 1) else .inl (x, p, l)
def rSec (K : Kd) (x : It) (l : List UInt8) (p : Nat) : Res :=
  match value K l with
  | none => .inr p
  | some (v, k) => rNums { x with s := v, sa := p } (l.drop k) (p + k)
def rVal (K : Kd) (x : It) (l : List UInt8) (p : Nat) : Res :=
  if l.head? = some 45 then rSec K x l.tail (p + 1)
  else if l.head? = some 47 then rStep { x with s := max x.f K.hi } l.tail (p + 1)
  else .inl (x, p, l)
def item (K : Kd) (l : List UInt8) (p : Nat) : Res :=
  if l.head? = some 42 then rNums ⟨K.lo, 0, K.hi, 0, 1, 0⟩ l.tail (p + 1)
  else match value K l with
  | none => .inr p
  | some (v, k) => rVal K ⟨v, p, v, p, 1, 0⟩ (l.drop k) (p + k)

/-- where the result of a part stands: from p on, within l -/
def At (l : List UInt8) (p : Nat) : Res → Prop
  | .inl (_, q, r) => p ≤ q ∧ q - p ≤ l.length ∧ r = l.drop (q - p)
  | .inr q => p ≤ q ∧ q - p ≤ l.length
theorem At.up {l l' : List UInt8} {p k : Nat} {r : Res} (h : At l' (p + k) r) (hk : k ≤ l.length) (e : l' = l.drop k) : At l p r := by
  subst e
  rcases r with ⟨x, q, r⟩ | q
  · obtain ⟨a, b, c⟩ := h
    rw [List.length_drop] at b
    refine ⟨by omega, by omega, ?_⟩
    rw [c, List.drop_drop]
    congr 1
    omega
  · obtain ⟨a, b⟩ := h
    rw [List.length_drop] at b
    exact ⟨by omega, by omega⟩
theorem At.here (x : It) (l : List UInt8) (p : Nat) : At l p (.inl (x, p, l)) := ⟨Nat.le_refl _, by omega, by simp⟩
def has (K : Kd) (v : Nat) : Prop := (K.lo ≤ v ∧ v ≤ K.hi) ∨ (K.week = true ∧ v = 7)
instance (K : Kd) (v : Nat) : Decidable (has K v) := by unfold has; infer_instance
end Go.Proofs.YtbehendogcghjaaDoor.Fld
