/- Plain mathematics of sets of the numbers from 0 to 63: members, lists, ranges, runs. No program stands here. Contracts of below, exists, only, Inside, Has, of package bits and of the document's: what each call returns; the world stays. Plain mathematics of fields of crontab expressions: numbers and names as they are read, items, lists of items, what is wrong with them, and their sets. No program stands here. Plain mathematics of texts that are cut at some of their bytes: pieces, lines, words. No program stands here. Plain mathematics of words and lines: what lies between words, the words of words that are joined, the lines put together again. No program stands here. Plain mathematics of the words of a text with their places, byte by byte; words with blanks between them. No program stands here. Words between blanks and tabs. No program stands here. -/
import Derived.Test.YtpnfifhanmpapaaGreatDoorProg
import Derived.WalkKit
import Derived.ProofKit
import Derived.Lib.Hide
import Derived.Laws.Shifts
import Derived.Laws.BitsAllLaws
/- Plain mathematics of sets of the numbers from 0 to 63: members, lists, ranges, runs. No program stands here. -/
namespace Go.Proofs.YtpnfifhanmpapaaGreatDoor.Bit
theorem ext64 {S T : Nat} (hS : S < 2 ^ 64) (hT : T < 2 ^ 64) (h : ∀ v, v < 64 → S.testBit v = T.testBit v) : S = T := by
  apply Nat.eq_of_testBit_eq
  intro v
  by_cases c : v < 64
  · exact h v c
  · rw [Nat.testBit_lt_two_pow (Nat.lt_of_lt_of_le hS (Nat.pow_le_pow_right (by decide) (by omega))), Nat.testBit_lt_two_pow (Nat.lt_of_lt_of_le hT (Nat.pow_le_pow_right (by decide) (by omega)))]
theorem bit_one (v w : Nat) : (2 ^ v).testBit w = decide (v = w) := by
  rw [Nat.testBit_two_pow]
theorem or_lt {S T : Nat} (hS : S < 2 ^ 64) (hT : T < 2 ^ 64) : S ||| T < 2 ^ 64 := Nat.or_lt_two_pow hS hT
theorem one_lt {v : Nat} (h : v < 64) : 2 ^ v < 2 ^ 64 := Nat.pow_lt_pow_right (by decide) h
/-- the numbers of a set from v on, below 64 -/
def memFrom (S : Nat) (v n : Nat) : List Nat := (List.range' v n).filter (S.testBit ·)
/-- the numbers of a set -/
def mem (S : Nat) : List Nat := memFrom S 0 64
theorem mem_iff {S v : Nat} : v ∈ mem S ↔ v < 64 ∧ S.testBit v = true := by
  unfold mem memFrom
  simp [List.mem_filter, List.mem_range']
theorem memFrom_succ (S v n : Nat) : memFrom S v (n + 1) = if S.testBit v then v :: memFrom S (v + 1) n else memFrom S (v + 1) n := by
  unfold memFrom
  rw [List.range'_succ, List.filter_cons]
theorem memFrom_zero (S v : Nat) : memFrom S v 0 = [] := rfl
/-- the numbers below k -/
def memTo (S k : Nat) : List Nat := (List.range' 0 k).filter (S.testBit ·)
theorem memTo_succ (S k : Nat) : memTo S (k + 1) = if S.testBit k then memTo S k ++ [k] else memTo S k := by
  unfold memTo
  rw [List.range'_concat, List.filter_append]
  simp only [Nat.zero_add, Nat.one_mul]
  by_cases c : S.testBit k = true
  · simp [c]
  · simp [c]
theorem memTo_zero (S : Nat) : memTo S 0 = [] := rfl
theorem memTo_all (S : Nat) : memTo S 64 = mem S := rfl
theorem memTo_len (S k : Nat) : (memTo S k).length ≤ k := by
  unfold memTo
  exact Nat.le_trans (List.length_filter_le _ _) (by simp)
theorem mem_len (S : Nat) : (mem S).length ≤ 64 := memTo_len S 64
theorem mem_sorted (S : Nat) : (mem S).Pairwise (· < ·) := List.Pairwise.filter _ List.pairwise_lt_range'
theorem mem_lt {S v : Nat} (h : v ∈ mem S) : v < 64 := (mem_iff.1 h).1
/-- two increasing lists with the same members are the same -/
theorem sorted_ext : ∀ {l m : List Nat}, l.Pairwise (· < ·) → m.Pairwise (· < ·) → (∀ v, v ∈ l ↔ v ∈ m) → l = m
  | [], [], _, _, _ => rfl
  | [], b :: m, _, _, h => by simpa using (h b).2 (by simp)
  | a :: l, [], _, _, h => by simpa using (h a).1 (by simp)
  | a :: l, b :: m, hl, hm, h => by
    rw [List.pairwise_cons] at hl hm
    have e : a = b := by
      have h1 := (h a).1 (by simp)
      have h2 := (h b).2 (by simp)
      rw [List.mem_cons] at h1 h2
      rcases h1 with h1 | h1
      · exact h1
      · rcases h2 with h2 | h2
        · exact h2.symm
        · have := hm.1 a h1; have := hl.1 b h2; omega
    subst e
    congr 1
    refine sorted_ext hl.2 hm.2 fun v => ?_
    have := h v
    rw [List.mem_cons, List.mem_cons] at this
    constructor
    · intro k
      rcases this.1 (.inr k) with rfl | k'
      · exact absurd (hl.1 v k) (by omega)
      · exact k'
    · intro k
      rcases this.2 (.inr k) with rfl | k'
      · exact absurd (hm.1 v k) (by omega)
      · exact k'

/-- how many of the numbers that follow keep the distance -/
def keep (step prev : Nat) : List Nat → Nat
  | [] => 0
  | x :: r => if x - prev = step then keep step x r + 1 else 0
theorem keep_le (step prev : Nat) (l : List Nat) : keep step prev l ≤ l.length := by
  induction l generalizing prev with
  | nil => simp [keep]
  | cons x r ih => unfold keep; split <;> simp; exact ih x
/-- the first run of an increasing list: how many numbers it has -/
def take1 : List Nat → Nat
  | [] => 0
  | [_] => 1
  | a :: b :: r => if keep (b - a) b r = 0 ∧ 1 < b - a then 1 else keep (b - a) b r + 2
def step1 : List Nat → Nat
  | a :: b :: r => if keep (b - a) b r = 0 ∧ 1 < b - a then 1 else b - a
  | _ => 1
theorem take1_two (a b : Nat) (r : List Nat) : take1 (a :: b :: r) = if keep (b - a) b r = 0 ∧ 1 < b - a then 1 else keep (b - a) b r + 2 := rfl
theorem step1_two (a b : Nat) (r : List Nat) : step1 (a :: b :: r) = if keep (b - a) b r = 0 ∧ 1 < b - a then 1 else b - a := rfl
theorem take1_bd {a : Nat} {l : List Nat} : 1 ≤ take1 (a :: l) ∧ take1 (a :: l) ≤ (a :: l).length := by
  cases l with
  | nil => simp [take1]
  | cons b r =>
    have := keep_le (b - a) b r
    rw [take1_two]
    simp only [List.length_cons]
    split <;> omega
/-- the runs of an increasing list: first number, last number, step -/
def runs (l : List Nat) : List (Nat × Nat × Nat) :=
  match l with
  | [] => []
  | a :: l => (a, (a :: l).getD (take1 (a :: l) - 1) 0, step1 (a :: l)) :: runs ((a :: l).drop (take1 (a :: l)))
termination_by l.length
decreasing_by
  have := take1_bd (a := a) (l := l)
  simp at this ⊢
  omega
theorem runs_nil : runs [] = [] := by rw [runs]
theorem runs_cons (a : Nat) (l : List Nat) : runs (a :: l) = (a, (a :: l).getD (take1 (a :: l) - 1) 0, step1 (a :: l)) :: runs ((a :: l).drop (take1 (a :: l))) := by rw [runs]
theorem runs_len (l : List Nat) : (runs l).length ≤ l.length := by
  match l with
  | [] => simp [runs_nil]
  | a :: l =>
    have b := take1_bd (a := a) (l := l)
    have := runs_len ((a :: l).drop (take1 (a :: l)))
    rw [runs_cons]
    simp at b this ⊢
    omega
termination_by l.length
decreasing_by
  simp at b ⊢
  omega

/-- the numbers lo, lo + step, .. , n of them -/
def nums (lo step n : Nat) : List Nat := (List.range n).map fun k => lo + k * step
theorem keep_nums (step prev : Nat) (l : List Nat) (h : 1 ≤ step) : l.take (keep step prev l) = nums (prev + step) step (keep step prev l) := by
  induction l generalizing prev with
  | nil => simp [keep, nums]
  | cons x r ih =>
    unfold keep
    by_cases c : x - prev = step
    · rw [if_pos c, List.take_succ_cons, ih x]
      unfold nums
      rw [List.range_succ_eq_map, List.map_cons, List.map_map]
      have e : prev + step = x := by omega
      rw [e]
      simp only [Nat.zero_mul, Nat.add_zero, List.cons.injEq, true_and]
      apply List.map_congr_left
      intro k _
      simp only [Function.comp]
      rw [Nat.succ_mul]
      omega
    · rw [if_neg c]
      simp [nums]
/-- the first run's numbers are the beginning of the list -/
theorem take1_nums (a : Nat) (l : List Nat) (h : (a :: l).Pairwise (· < ·)) : (a :: l).take (take1 (a :: l)) = nums a (step1 (a :: l)) (take1 (a :: l)) := by
  cases l with
  | nil => simp [take1, step1, nums]
  | cons b r =>
    have ab : a < b := by rw [List.pairwise_cons] at h; exact h.1 b (by simp)
    rw [take1_two, step1_two]
    by_cases c : keep (b - a) b r = 0 ∧ 1 < b - a
    · simp [c, nums]
    · rw [if_neg c, if_neg c, List.take_succ_cons, List.take_succ_cons, keep_nums _ _ _ (by omega)]
      unfold nums
      rw [List.range_succ_eq_map, List.range_succ_eq_map]
      simp only [List.map_cons, List.map_map, Nat.zero_mul, Nat.add_zero, Nat.succ_mul, Nat.zero_add, List.cons.injEq, true_and]
      refine ⟨by omega, ?_⟩
      apply List.map_congr_left
      intro k _
      simp only [Function.comp, Nat.succ_mul]
      omega
theorem nums_len (lo step n : Nat) : (nums lo step n).length = n := by simp [nums]
theorem nums_getD (lo step n k : Nat) (h : k < n) : (nums lo step n).getD k 0 = lo + k * step := by simp [nums, List.getD, h]
/-- the last number of the first run -/
theorem last1 (a : Nat) (l : List Nat) (h : (a :: l).Pairwise (· < ·)) : (a :: l).getD (take1 (a :: l) - 1) 0 = a + (take1 (a :: l) - 1) * step1 (a :: l) := by
  have b := take1_bd (a := a) (l := l)
  have e := take1_nums a l h
  have g : ((a :: l).take (take1 (a :: l))).getD (take1 (a :: l) - 1) 0 = (nums a (step1 (a :: l)) (take1 (a :: l))).getD (take1 (a :: l) - 1) 0 := by rw [e]
  rw [nums_getD _ _ _ _ (by omega)] at g
  rw [← g]
  simp only [List.getD_eq_getElem?_getD, List.getElem?_take]
  rw [if_pos (by omega)]
theorem step1_pos (a : Nat) (l : List Nat) (h : (a :: l).Pairwise (· < ·)) : 1 ≤ step1 (a :: l) := by
  cases l with
  | nil => simp [step1]
  | cons b r =>
    have ab : a < b := by rw [List.pairwise_cons] at h; exact h.1 b (by simp)
    rw [step1_two]; split <;> omega
theorem one_step (a : Nat) (l : List Nat) (h : take1 (a :: l) = 1) : step1 (a :: l) = 1 := by
  cases l with
  | nil => rfl
  | cons b r =>
    rw [take1_two] at h
    rw [step1_two]
    split at h
    · rename_i c; rw [if_pos c]
    · omega
theorem two_step (a : Nat) (l : List Nat) (h : take1 (a :: l) = 2) : step1 (a :: l) ≤ 1 := by
  cases l with
  | nil => simp [step1]
  | cons b r =>
    rw [take1_two] at h
    rw [step1_two]
    split at h
    · omega
    · rename_i c; rw [if_neg c]; omega
/-- a triple as the chapter asks it of a run -/
def Run (r : Nat × Nat × Nat) : Prop := r.1 ≤ r.2.1 ∧ 1 ≤ r.2.2 ∧ (r.2.1 - r.1) % r.2.2 = 0 ∧ (r.1 = r.2.1 → r.2.2 = 1) ∧ ¬ (r.2.1 - r.1 = r.2.2 ∧ 1 < r.2.2)
/-- the numbers of a run -/
def numsR (r : Nat × Nat × Nat) : List Nat := nums r.1 r.2.2 ((r.2.1 - r.1) / r.2.2 + 1)
theorem run_of (a n q : Nat) (s : 1 ≤ q) (o : n + 1 = 1 → q = 1) (w : n + 1 = 2 → q ≤ 1) : Run (a, a + n * q, q) ∧ numsR (a, a + n * q, q) = nums a q (n + 1) := by
  have d : a + n * q - a = n * q := by omega
  refine ⟨⟨Nat.le_add_right a _, s, ?_, fun k => ?_, fun k => ?_⟩, ?_⟩
  · show (a + n * q - a) % q = 0
    rw [d]; exact Nat.mul_mod_left n q
  · have k : a = a + n * q := k
    have k0 : n * q = 0 := by omega
    rcases Nat.mul_eq_zero.1 k0 with z | z
    · exact o (by omega)
    · omega
  · obtain ⟨k1, k2⟩ := k
    have k1 : a + n * q - a = q := k1
    have k2 : 1 < q := k2
    have : n = 1 := by
      have : n * q = 1 * q := by omega
      exact Nat.eq_of_mul_eq_mul_right (by omega) this
    have := w (by omega)
    omega
  · show nums a q ((a + n * q - a) / q + 1) = _
    rw [d, Nat.mul_div_cancel _ (by omega)]
theorem first_run (a : Nat) (l : List Nat) (h : (a :: l).Pairwise (· < ·)) :
    Run (a, (a :: l).getD (take1 (a :: l) - 1) 0, step1 (a :: l)) ∧ numsR (a, (a :: l).getD (take1 (a :: l) - 1) 0, step1 (a :: l)) = (a :: l).take (take1 (a :: l)) := by
  have b := take1_bd (a := a) (l := l)
  have n1 : take1 (a :: l) - 1 + 1 = take1 (a :: l) := by omega
  have k := run_of a (take1 (a :: l) - 1) (step1 (a :: l)) (step1_pos a l h) (fun c => one_step a l (by omega)) (fun c => two_step a l (by omega))
  rw [n1] at k
  rw [last1 a l h, take1_nums a l h]
  exact k
theorem runs_all (l : List Nat) (h : l.Pairwise (· < ·)) : (∀ r ∈ runs l, Run r) ∧ (runs l).flatMap numsR = l := by
  match l with
  | [] => simp [runs_nil]
  | a :: l =>
    have b := take1_bd (a := a) (l := l)
    have f := first_run a l h
    have ih := runs_all ((a :: l).drop (take1 (a :: l))) (h.sublist (List.drop_sublist _ _))
    rw [runs_cons]
    refine ⟨fun r hr => ?_, ?_⟩
    · rw [List.mem_cons] at hr
      rcases hr with rfl | hr
      · exact f.1
      · exact ih.1 r hr
    · rw [List.flatMap_cons, f.2, ih.2, List.take_append_drop]
termination_by l.length
decreasing_by
  simp at b ⊢
  omega

/-! sets out of lists, ranges -/
def ofL (S : Nat) (l : List Nat) : Nat := l.foldl (fun s v => s ||| 2 ^ v) S
theorem ofL_bit (l : List Nat) (S v : Nat) : (ofL S l).testBit v = (S.testBit v || decide (v ∈ l)) := by
  induction l generalizing S with
  | nil => simp [ofL]
  | cons a l ih =>
    show (ofL (S ||| 2 ^ a) l).testBit v = _
    rw [ih, Nat.testBit_or, bit_one]
    by_cases c : a = v
    · subst c; simp
    · have : ¬ v = a := fun h => c h.symm
      simp [c, this]
theorem ofL_lt (l : List Nat) (S : Nat) (hS : S < 2 ^ 64) (h : ∀ v ∈ l, v < 64) : ofL S l < 2 ^ 64 := by
  induction l generalizing S with
  | nil => exact hS
  | cons a l ih =>
    show ofL (S ||| 2 ^ a) l < 2 ^ 64
    exact ih _ (or_lt hS (one_lt (h a (by simp)))) (fun v hv => h v (by simp [hv]))
theorem ofL_mem (S : Nat) (hS : S < 2 ^ 64) : ofL 0 (mem S) = S := by
  apply ext64 (ofL_lt _ _ (by decide) (fun v hv => mem_lt hv)) hS
  intro v hv
  rw [ofL_bit, Nat.zero_testBit, Bool.false_or]
  by_cases c : S.testBit v = true
  · rw [c]; simpa using mem_iff.2 ⟨hv, c⟩
  · have : v ∉ mem S := fun h => c (mem_iff.1 h).2
    simp [this]
    simpa using c
theorem mem_ofL {l : List Nat} (h : l.Pairwise (· < ·)) (hl : ∀ v ∈ l, v < 64) : mem (ofL 0 l) = l := by
  refine sorted_ext (mem_sorted _) h fun v => ?_
  rw [mem_iff, ofL_bit, Nat.zero_testBit, Bool.false_or]
  constructor
  · intro k; simpa using k.2
  · intro k; exact ⟨hl v k, by simpa using k⟩
/-- the set of a range -/
def rangeS (lo hi step : Nat) : Nat := ofL 0 (nums lo step ((hi - lo) / step + 1))
theorem nums_mem {lo step n v : Nat} : v ∈ nums lo step n ↔ ∃ k, k < n ∧ v = lo + k * step := by
  unfold nums
  simp only [List.mem_map, List.mem_range]
  constructor
  · rintro ⟨k, a, b⟩; exact ⟨k, a, b.symm⟩
  · rintro ⟨k, a, b⟩; exact ⟨k, a, b.symm⟩
theorem nums_range {lo hi step v : Nat} (h : lo ≤ hi) (s : 1 ≤ step) : v ∈ nums lo step ((hi - lo) / step + 1) ↔ lo ≤ v ∧ v ≤ hi ∧ (v - lo) % step = 0 := by
  rw [nums_mem]
  constructor
  · rintro ⟨k, a, rfl⟩
    have k1 : k ≤ (hi - lo) / step := by omega
    have := (Nat.le_div_iff_mul_le (by omega)).1 k1
    refine ⟨by omega, by omega, ?_⟩
    rw [Nat.add_sub_cancel_left]; exact Nat.mul_mod_left k step
  · rintro ⟨a, b, c⟩
    refine ⟨(v - lo) / step, ?_, ?_⟩
    · have := Nat.div_le_div_right (c := step) (show v - lo ≤ hi - lo by omega)
      omega
    · have := Nat.div_add_mod (v - lo) step
      rw [Nat.mul_comm] at this
      omega
theorem nums_sorted (lo step n : Nat) (s : 1 ≤ step) : (nums lo step n).Pairwise (· < ·) := by
  rw [List.pairwise_iff_getElem]
  intro i j hi hj hij
  simp only [nums, List.getElem_map, List.getElem_range]
  have := Nat.mul_lt_mul_of_pos_right hij (show 0 < step by omega)
  omega
theorem rangeS_bit {lo hi step v : Nat} (h : lo ≤ hi) (s : 1 ≤ step) : (rangeS lo hi step).testBit v = decide (lo ≤ v ∧ v ≤ hi ∧ (v - lo) % step = 0) := by
  unfold rangeS
  rw [ofL_bit, Nat.zero_testBit, Bool.false_or]
  by_cases c : v ∈ nums lo step ((hi - lo) / step + 1)
  · simp only [c, decide_true]; exact (decide_eq_true ((nums_range h s).1 c)).symm
  · simp only [c, decide_false]; exact (decide_eq_false (fun k => c ((nums_range h s).2 k))).symm
theorem rangeS_lt {lo hi step : Nat} (h : lo ≤ hi) (s : 1 ≤ step) (hh : hi < 64) : rangeS lo hi step < 2 ^ 64 :=
  ofL_lt _ _ (by decide) (fun v hv => by have := (nums_range h s).1 hv; omega)
theorem rangeS_mem {lo hi step : Nat} (h : lo ≤ hi) (s : 1 ≤ step) (hh : hi < 64) : mem (rangeS lo hi step) = nums lo step ((hi - lo) / step + 1) :=
  mem_ofL (nums_sorted _ _ _ s) (fun v hv => by have := (nums_range h s).1 hv; omega)

/-! the runs of a range -/
theorem nums_succ (lo step n : Nat) : nums lo step (n + 1) = lo :: nums (lo + step) step n := by
  unfold nums
  rw [List.range_succ_eq_map]
  simp only [List.map_cons, List.map_map, Nat.zero_mul, Nat.add_zero, List.cons.injEq, true_and]
  apply List.map_congr_left
  intro k _
  simp only [Function.comp, Nat.succ_mul]
  omega
theorem keep_self (step prev n : Nat) : keep step prev (nums (prev + step) step n) = n := by
  induction n generalizing prev with
  | zero => simp [nums, keep]
  | succ n ih =>
    rw [nums_succ]
    unfold keep
    rw [if_pos (by omega), ih]
theorem runs_one (lo step : Nat) : runs (nums lo step 1) = [(lo, lo, 1)] := by
  rw [nums_succ, show nums (lo + step) step 0 = [] from rfl, runs_cons]
  simp [take1, step1, runs_nil]
theorem runs_many (lo step n : Nat) (s : 1 ≤ step) (h : step = 1 ∨ 1 ≤ n) : runs (nums lo step (n + 2)) = [(lo, lo + (n + 1) * step, step)] := by
  have e : take1 (nums lo step (n + 2)) = n + 2 ∧ step1 (nums lo step (n + 2)) = step := by
    rw [nums_succ, nums_succ, take1_two, step1_two, Nat.add_sub_cancel_left, keep_self]
    rw [if_neg (by omega), if_neg (by omega)]
    exact ⟨rfl, rfl⟩
  have l := last1 lo (nums (lo + step) step (n + 1)) (by rw [← nums_succ]; exact nums_sorted _ _ _ s)
  rw [← nums_succ, e.1, e.2] at l
  rw [nums_succ, runs_cons, ← nums_succ, e.1, e.2, l, List.drop_of_length_le (by rw [nums_len]; exact Nat.le_refl _), runs_nil]
  rfl
theorem runs_two (lo step : Nat) (s : 1 < step) : runs (nums lo step 2) = [(lo, lo, 1), (lo + step, lo + step, 1)] := by
  have e : take1 (nums lo step 2) = 1 ∧ step1 (nums lo step 2) = 1 := by
    rw [nums_succ, nums_succ, take1_two, step1_two, Nat.add_sub_cancel_left, keep_self]
    rw [if_pos (by omega), if_pos (by omega)]
    exact ⟨rfl, rfl⟩
  rw [nums_succ, runs_cons, ← nums_succ, e.1, e.2]
  have d : (nums lo step 2).drop 1 = nums (lo + step) step 1 := by rw [nums_succ]; rfl
  rw [d, runs_one]
  rw [nums_getD _ _ _ _ (by decide)]
  simp
end Go.Proofs.YtpnfifhanmpapaaGreatDoor.Bit
/- Contracts of below, exists, only, Inside, Has, of package bits and of the document's: what each call returns; the world stays. -/
namespace Go.Proofs.YtpnfifhanmpapaaGreatDoor
open Go.RowKit

theorem ret_int {k : IntKind} {a b : Int} (h : a = b) : Ending.returned (.int k a) = .returned (.int k b) := by rw [h]
theorem ret_bool {a b : Bool} (h : a = b) : Ending.returned (.bool a) = .returned (.bool b) := by rw [h]

/-! numbers -/
theorem wrap_pow {k : Nat} (h : k < 64) : IntKind.u64.wrap ((2 : Int) ^ k) = ((2 ^ k : Nat) : Int) := by
  have e : ((2 : Int) ^ k) = ((2 ^ k : Nat) : Int) := by simp
  have b := Bit.one_lt h
  rw [e, IntKind.wrap_u64]
  generalize 2 ^ k = m at b
  omega
/-- the set of the numbers below v -/
def low (v : Int) : Nat := 2 ^ (min v.toNat 64) - 1
theorem low_lt (v : Int) : low v < 2 ^ 64 := by
  unfold low
  have := Nat.pow_le_pow_right (n := 2) (by decide) (Nat.min_le_right v.toNat 64)
  have := Nat.two_pow_pos (min v.toNat 64)
  omega
theorem low_bit (v : Int) (j : Nat) : (low v).testBit j = decide (j < 64 ∧ (j : Int) < v) := by
  unfold low
  rw [Nat.testBit_two_pow_sub_one]
  congr 1
  apply propext
  omega
/-- without the numbers below v -/
def from_ (S : Nat) (v : Int) : Nat := S &&& (18446744073709551615 - low v)
theorem not_bit {T : Nat} (hT : T < 2 ^ 64) (j : Nat) : (18446744073709551615 - T).testBit j = (decide (j < 64) && !T.testBit j) := by
  have e : 18446744073709551615 - T = 2 ^ 64 - (T + 1) := by omega
  rw [e, Nat.testBit_two_pow_sub_succ hT]
theorem set_hi {S : Nat} (hS : S < 2 ^ 64) {j : Nat} (h : S.testBit j = true) : j < 64 := by
  by_cases c : j < 64
  · exact c
  · rw [Nat.testBit_lt_two_pow (Nat.lt_of_lt_of_le hS (Nat.pow_le_pow_right (by decide) (by omega)))] at h
    cases h
theorem from_bit {S : Nat} (hS : S < 2 ^ 64) (v : Int) (j : Nat) : (from_ S v).testBit j = (S.testBit j && decide (v ≤ j)) := by
  unfold from_
  rw [Nat.testBit_and, not_bit (low_lt v), low_bit]
  by_cases c : S.testBit j = true
  · have := set_hi hS c
    rw [c]
    by_cases d : (j : Int) < v
    · have d' : ¬ v ≤ j := by omega
      simp [d, d', this]
    · have d' : v ≤ j := by omega
      simp [d, d', this]
  · have c : S.testBit j = false := by simpa using c
    rw [c]; rfl
theorem from_lt {S : Nat} (hS : S < 2 ^ 64) (v : Int) : from_ S v < 2 ^ 64 := Nat.lt_of_le_of_lt Nat.and_le_left hS
/-- the numbers below v alone -/
def upto (S : Nat) (v : Int) : Nat := S &&& low v
theorem upto_bit {S : Nat} (hS : S < 2 ^ 64) (v : Int) (j : Nat) : (upto S v).testBit j = (S.testBit j && decide ((j : Int) < v)) := by
  unfold upto
  rw [Nat.testBit_and, low_bit]
  by_cases c : S.testBit j = true
  · have := set_hi hS c
    rw [c]
    simp [this]
  · have c : S.testBit j = false := by simpa using c
    rw [c]; rfl
theorem upto_lt {S : Nat} (hS : S < 2 ^ 64) (v : Int) : upto S v < 2 ^ 64 := Nat.lt_of_le_of_lt Nat.and_le_left hS

/-! below, exists, only -/
theorem below_neg (v : Int) (w : World) (h : v ≤ 0) :
    Calls Tryz.prog 118 #[.int .i64 v] w fun e w' => e = .returned (.int .u64 0) ∧ w = w' := by
  by_cases c : v = 0
  · subst c
    go_enter Tryz.func118, Tryz.ntmps118
    go_wp2
    go_ret; exact ⟨rfl, rfl⟩
  · have h' : v < 0 := by omega
    clear h c
    go_enter Tryz.func118, Tryz.ntmps118
    go_wp2
    go_ret; exact ⟨rfl, rfl⟩
theorem below_mid (v : Int) (w : World) (h : 0 < v) (h1 : v < 64) :
    Calls Tryz.prog 118 #[.int .i64 v] w fun e w' => e = .returned (.int .u64 ((2 ^ v.toNat - 1 : Nat) : Int)) ∧ w = w' := by
  go_enter Tryz.func118, Tryz.ntmps118
  go_wp2
  go_ret
  refine ⟨ret_int ?_, rfl⟩
  have k : v.toNat < 64 := by omega
  rw [wrap_pow k, IntKind.wrap_u64]
  have := Bit.one_lt k
  have := Nat.two_pow_pos v.toNat
  omega
theorem below_big (v : Int) (w : World) (h : 64 ≤ v) (h1 : v ≤ 9223372036854775807) :
    Calls Tryz.prog 118 #[.int .i64 v] w fun e w' => e = .returned (.int .u64 18446744073709551615) ∧ w = w' := by
  have h0 : 0 ≤ v := by omega
  have hm : min v.toNat 64 = 64 := by omega
  have hm' : min v.toNat IntKind.u64.bits = 64 := hm
  go_enter Tryz.func118, Tryz.ntmps118
  go_wp2
  go_ret
  exact ⟨rfl, rfl⟩
theorem below_any (v : Int) (w : World) (h1 : v ≤ 9223372036854775807) :
    Calls Tryz.prog 118 #[.int .i64 v] w fun e w' => e = .returned (.int .u64 (low v : Nat)) ∧ w = w' := by
  by_cases a : v ≤ 0
  · have e : low v = 0 := by unfold low; rw [show min v.toNat 64 = 0 by omega]
    rw [e]; exact below_neg v w a
  · by_cases b : v < 64
    · have e : low v = 2 ^ v.toNat - 1 := by unfold low; rw [show min v.toNat 64 = v.toNat by omega]
      rw [e]; exact below_mid v w (by omega) b
    · have e : low v = 18446744073709551615 := by unfold low; rw [show min v.toNat 64 = 64 by omega]
      rw [e]; exact below_big v w (by omega) h1
theorem exists_t (v : Int) (w : World) (h0 : 0 ≤ v) (h1 : v < 64) :
    Calls Tryz.prog 97 #[.int .i64 v] w fun e w' => e = .returned (.bool true) ∧ w = w' := by
  go_enter Tryz.func97, Tryz.ntmps97
  go_wp2
  go_ret
  exact ⟨rfl, rfl⟩
theorem exists_f (v : Int) (w : World) (h : v < 0 ∨ 64 ≤ v) :
    Calls Tryz.prog 97 #[.int .i64 v] w fun e w' => e = .returned (.bool false) ∧ w = w' := by
  rcases h with h | h
  · have d : decide (0 ≤ v) = false := by simp; omega
    go_enter Tryz.func97, Tryz.ntmps97
    go_wp2
    go_ret
    exact ⟨rfl, rfl⟩
  · have d0 : decide (0 ≤ v) = true := by simp; omega
    have d : decide (v < 64) = false := by simp; omega
    go_enter Tryz.func97, Tryz.ntmps97
    go_wp2
    go_ret
    exact ⟨rfl, rfl⟩
theorem only_any (v : Nat) (w : World) (h : v < 64) :
    Calls Tryz.prog 98 #[.int .i64 v] w fun e w' => e = .returned (.int .u64 ((2 ^ v : Nat) : Int)) ∧ w = w' := by
  go_enter Tryz.func98, Tryz.ntmps98
  go_wp2
  go_ret
  exact ⟨ret_int (wrap_pow h), rfl⟩

/-! Inside -/
/-- are all numbers of A in B? -/
def subB (A B : Nat) : Bool := decide (A &&& B = A)
theorem sub_all {A B : Nat} (hA : A < 2 ^ 64) : subB A B = true ↔ ∀ j, j < 64 → A.testBit j = true → B.testBit j = true := by
  unfold subB
  rw [decide_eq_true_iff]
  constructor
  · intro h j hj ha
    rw [← h, Nat.testBit_and, Bool.and_eq_true] at ha
    exact ha.2
  · intro h
    apply Bit.ext64 (Nat.lt_of_le_of_lt Nat.and_le_left hA) hA
    intro j hj
    rw [Nat.testBit_and]
    by_cases c : A.testBit j = true
    · rw [h j hj c]; simp
    · have c : A.testBit j = false := by simpa using c
      rw [c]; rfl
theorem sub_iff {A B : Nat} (hA : A < 2 ^ 64) (hB : B < 2 ^ 64) : A &&& (18446744073709551615 - B) = 0 ↔ subB A B = true := by
  rw [sub_all hA]
  constructor
  · intro h j hj ha
    have : (A &&& (18446744073709551615 - B)).testBit j = false := by rw [h]; exact Nat.zero_testBit j
    rw [Nat.testBit_and, not_bit hB, ha] at this
    simpa [hj] using this
  · intro h
    apply Bit.ext64 (Nat.lt_of_le_of_lt Nat.and_le_left hA) (by decide)
    intro j hj
    rw [Nat.testBit_and, not_bit hB, Nat.zero_testBit]
    by_cases c : A.testBit j = true
    · rw [h j hj c]; simp
    · have c : A.testBit j = false := by simpa using c
      rw [c]; rfl
theorem sub_iff' {A B : Nat} : A &&& B = A ↔ subB A B = true := by
  unfold subB
  rw [decide_eq_true_iff]
theorem inside_any (A B : Nat) (w : World) (hA : A < 2 ^ 64) (hB : B < 2 ^ 64) :
    Calls Tryz.prog 57 #[.int .u64 A, .int .u64 B] w fun e w' => e = .returned (.bool (subB A B)) ∧ w = w' := by
  have k := sub_iff hA hB
  have e : bits .andNot .u64 (A : Int) (B : Int) = ((A &&& (18446744073709551615 - B) : Nat) : Int) := u64_andNot_nat A B hA hB
  have d : ((A &&& (18446744073709551615 - B) : Nat) == 0) = subB A B := by
    cases hs : subB A B with
    | true => rw [hs] at k; simpa using k
    | false => rw [hs] at k; simpa using k
  obtain ⟨z, hz⟩ : ∃ z, A &&& (18446744073709551615 - B) = z := ⟨_, rfl⟩
  rw [hz] at e d
  have d' : (((z : Nat) : Int) == 0) = subB A B := by rw [← d]; cases z <;> simp <;> omega
  obtain ⟨t, ht⟩ : ∃ t, subB A B = t := ⟨_, rfl⟩
  rw [ht] at d' ⊢
  clear k d hz ht
  go_enter Tryz.func57, Tryz.ntmps57
  go_wp2
  go_ret
  exact ⟨rfl, rfl⟩
def hasB (S : Nat) (v : Int) : Bool := decide (0 ≤ v ∧ v < 64) && S.testBit v.toNat
theorem has_nat {S : Nat} (hS : S < 2 ^ 64) (j : Nat) : hasB S j = S.testBit j := by
  unfold hasB
  by_cases c : S.testBit j = true
  · have := set_hi hS c
    have d : (0 ≤ (j : Int) ∧ (j : Int) < 64) := by omega
    simp [d, c]
  · have c : S.testBit j = false := by simpa using c
    simp [c]
theorem sub_one {S v : Nat} (h : v < 64) : subB (2 ^ v) S = S.testBit v := by
  have k := sub_all (B := S) (Bit.one_lt h)
  by_cases c : S.testBit v = true
  · rw [c, k]
    intro j _ hj
    rw [Bit.bit_one] at hj
    have : v = j := by simpa using hj
    rw [← this]; exact c
  · have e : ¬ subB (2 ^ v) S = true := by
      rw [k]
      intro q
      exact c (q v h (by rw [Bit.bit_one]; simp))
    have c : S.testBit v = false := by simpa using c
    rw [c]
    simpa using e
theorem has_any (S : Nat) (v : Int) (w : World) (hS : S < 2 ^ 64) :
    Calls Tryz.prog 65 #[.int .u64 S, .int .i64 v] w fun e w' => e = .returned (.bool (hasB S v)) ∧ w = w' := by
  by_cases c : 0 ≤ v ∧ v < 64
  · obtain ⟨n, rfl⟩ := Int.eq_ofNat_of_zero_le c.1
    have n64 : n < 64 := by omega
    have X := Lib.hid (fun w => exists_t (n : Int) w c.1 c.2)
    have O := Lib.hid (fun w => only_any n w n64)
    have I := Lib.hid (fun w => inside_any (2 ^ n) S w (Bit.one_lt n64) hS)
    have E : hasB S n = subB (2 ^ n) S := by rw [sub_one n64, has_nat hS]
    obtain ⟨t, ht⟩ : ∃ t, subB (2 ^ n) S = t := ⟨_, rfl⟩
    obtain ⟨m, hm⟩ : ∃ m : Nat, 2 ^ n = m := ⟨_, rfl⟩
    rw [E, ht]
    rw [ht, hm] at I
    rw [hm] at O
    clear E ht c n64 hm
    go_enter Tryz.func65, Tryz.ntmps65
    go_wp2_with fail
    refine (X.out _).mono ?_
    rintro e w1 ⟨rfl, rfl⟩
    go_wp2_with fail
    refine (O.out _).mono ?_
    rintro e w1 ⟨rfl, rfl⟩
    go_wp2_with fail
    refine (I.out _).mono ?_
    rintro e w1 ⟨rfl, rfl⟩
    go_wp2_with fail
    go_ret
    exact ⟨rfl, rfl⟩
  · have E : hasB S v = false := by unfold hasB; simp [c]
    have X := Lib.hid (fun w => exists_f v w (by omega))
    rw [E]
    clear E c
    go_enter Tryz.func65, Tryz.ntmps65
    go_wp2_with fail
    refine (X.out _).mono ?_
    rintro e w1 ⟨rfl, rfl⟩
    go_wp2_with fail
    go_ret
    exact ⟨rfl, rfl⟩
theorem hasR_any (S : Nat) (v : Int) (w : World) (hS : S < 2 ^ 64) :
    Calls Tryz.prog 152 #[.int .u64 S, .int .i64 v] w fun e w' => e = .returned (.bool (hasB S v)) ∧ w = w' := by
  by_cases c : 0 ≤ v ∧ v < 64
  · obtain ⟨n, rfl⟩ := Int.eq_ofNat_of_zero_le c.1
    have n64 : n < 64 := by omega
    have d0 : decide (0 ≤ (n : Int)) = true := by simp
    have d1 : decide ((n : Int) ≤ 63) = true := by simp; omega
    have n0 : (0 : Int) ≤ n := by omega
    have q : (S : Int) / 2 ^ n = ((S / 2 ^ n : Nat) : Int) := by simp
    have q1 : S / 2 ^ n < 2 ^ 64 := Nat.lt_of_le_of_lt (Nat.div_le_self _ _) hS
    have r : (bits .and .u64 ((S : Int) / 2 ^ n) 1 == 1) = S.testBit n := by
      rw [q, show bits .and .u64 ((S / 2 ^ n : Nat) : Int) 1 = ((S / 2 ^ n &&& 1 : Nat) : Int) from u64_and_nat (S / 2 ^ n) 1 q1 (by decide), Nat.and_one_is_mod, Nat.testBit_eq_decide_div_mod_eq]
      clear q q1
      generalize S / 2 ^ n = z
      by_cases c : z % 2 = 1
      · simp [c]
      · have : z % 2 = 0 := by omega
        simp [this]
    rw [has_nat hS n]
    have R := Lib.hid r
    clear r q q1 c
    go_enter Tryz.func152, Tryz.ntmps152
    go_wp2
    go_ret
    exact ⟨ret_bool R.out, rfl⟩
  · have E : hasB S v = false := by unfold hasB; simp [c]
    rw [E]
    by_cases k : 0 ≤ v
    · have d1 : decide (v ≤ 63) = false := by simp; omega
      clear E c
      go_enter Tryz.func152, Tryz.ntmps152
      go_wp2
      go_ret
      exact ⟨rfl, rfl⟩
    · have d1 : decide (0 ≤ v) = false := by simp; omega
      clear E c
      go_enter Tryz.func152, Tryz.ntmps152
      go_wp2
      go_ret
      exact ⟨rfl, rfl⟩
end Go.Proofs.YtpnfifhanmpapaaGreatDoor
/- Plain mathematics of fields of crontab expressions: numbers and names as they are read, items, lists of items, what is wrong with them, and their sets. No program stands here. -/
namespace Go.Proofs.YtpnfifhanmpapaaGreatDoor.Fld

def upN (c : Nat) : Bool := decide (65 ≤ c ∧ c ≤ 90)
def loN (c : Nat) : Bool := decide (97 ≤ c ∧ c ≤ 122)
def letN (c : Nat) : Bool := upN c || loN c
def digN (c : Nat) : Bool := decide (48 ≤ c ∧ c ≤ 57)
def isLet (c : UInt8) : Bool := letN c.toNat
def isDig (c : UInt8) : Bool := digN c.toNat
def isUp (c : UInt8) : Bool := upN c.toNat
/-- a letter in upper case -/
def up (c : UInt8) : UInt8 := if loN c.toNat then (c.toNat - 32).toUInt8 else c

/-- a kind whose numbers are not below 0 -/
structure Kd where
  lo : Nat
  hi : Nat
  names : List (List UInt8)
  week : Bool
/-- a kind that is valid -/
structure Kd.Ok (K : Kd) : Prop where
  le : K.lo ≤ K.hi
  hi : K.hi ≤ 62
  week : K.week = true → K.lo = 0 ∧ K.hi = 6
  count : K.names = [] ∨ K.names.length = K.hi - K.lo + 1
  ups : ∀ s ∈ K.names, 1 ≤ s.length ∧ s.length ≤ 9 ∧ ∀ c ∈ s, isUp c = true
  diff : K.names.Pairwise (· ≠ ·)

/-! what is read -/
def digs (l : List UInt8) : List UInt8 := (l.takeWhile isDig).take 2
def val (d : List UInt8) : Nat := d.foldl (fun a c => 10 * a + (c.toNat - 48)) 0
/-- a number, and how many bytes it has -/
def num (l : List UInt8) : Option (Nat × Nat) := if digs l = [] then none else some (val (digs l), (digs l).length)
def lets (l : List UInt8) : List UInt8 := l.takeWhile isLet
def look (names : List (List UInt8)) (u : List UInt8) : Option Nat := names.findIdx? (fun s => s == u.map up)
/-- a number or a name, and how many bytes it has -/
def value (K : Kd) (l : List UInt8) : Option (Nat × Nat) := if lets l = [] then num l else (look K.names (lets l)).map fun i => (K.lo + i, (lets l).length)
/-- an item: its first number, its last one, its step, and where they stand -/
structure It where
  f : Nat
  fa : Nat
  s : Nat
  sa : Nat
  t : Nat
  ta : Nat
/-- an item, the place behind it, and what is left; or the place at which there is none -/
abbrev Res : Type := (It × Nat × List UInt8) ⊕ Nat
def rStep (x : It) (l : List UInt8) (p : Nat) : Res :=
  match num l with
  | none => .inr p
  | some (n, k) => .inl ({ x with t := n, ta := p }, p + k, l.drop k)
def rNums (x : It) (l : List UInt8) (p : Nat) : Res := if l.head? = some 47 then rStep x l.tail (p + 1) else .inl (x, p, l)
def rSec (K : Kd) (x : It) (l : List UInt8) (p : Nat) : Res :=
  match value K l with
  | none => .inr p
  | some (v, k) => rNums { x with s := v, sa := p } (l.drop k) (p + k)
def rVal (K : Kd) (x : It) (l : List UInt8) (p : Nat) : Res :=
  if l.head? = some 45 then rSec K x l.tail (p + 1)
  else if l.head? = some 47 then rStep { x with s := max x.f K.hi } l.tail (p + 1)
  else .inl (x, p, l)
def item (K : Kd) (l : List UInt8) (p : Nat) : Res :=
  if l.head? = some 42 then rNums ⟨K.lo, 0, K.hi, 0, 1, 0⟩ l.tail (p + 1)
  else match value K l with
  | none => .inr p
  | some (v, k) => rVal K ⟨v, p, v, p, 1, 0⟩ (l.drop k) (p + k)

/-- the items of a text that are whole, and where it stops being a field, if it does -/
def scanF (K : Kd) : Nat → List UInt8 → Nat → List It × Option Nat
  | 0, _, p => ([], some p)
  | n + 1, l, p =>
    match item K l p with
    | .inr q => ([], some q)
    | .inl (x, q, r) => if r = [] then ([x], none) else if r.head? = some 44 then (x :: (scanF K n r.tail (q + 1)).1, (scanF K n r.tail (q + 1)).2) else ([], some q)
def scan (K : Kd) (l : List UInt8) (p : Nat) : List It × Option Nat := scanF K (l.length + 1) l p

/-! lengths and places -/
theorem digs_len (l : List UInt8) : (digs l).length ≤ 2 ∧ (digs l).length ≤ l.length := by
  unfold digs
  rw [List.length_take]
  have := (List.takeWhile_prefix (p := isDig) (l := l)).length_le
  omega
theorem num_len {l : List UInt8} {n k : Nat} (h : num l = some (n, k)) : 1 ≤ k ∧ k ≤ l.length ∧ k ≤ 2 := by
  unfold num at h
  split at h
  · cases h
  · rename_i hd
    simp only [Option.some.injEq, Prod.mk.injEq] at h
    have := digs_len l
    have : 1 ≤ (digs l).length := by
      cases e : digs l with
      | nil => exact (hd e).elim
      | cons a b => simp
    omega
theorem lets_len (l : List UInt8) : (lets l).length ≤ l.length := (List.takeWhile_prefix (p := isLet) (l := l)).length_le
theorem value_len {K : Kd} {l : List UInt8} {n k : Nat} (h : value K l = some (n, k)) : 1 ≤ k ∧ k ≤ l.length := by
  unfold value at h
  split at h
  · have := num_len h; omega
  · rename_i hd
    cases e : look K.names (lets l) with
    | none => rw [e] at h; cases h
    | some i =>
      rw [e] at h
      simp only [Option.map_some, Option.some.injEq, Prod.mk.injEq] at h
      have := lets_len l
      have : 1 ≤ (lets l).length := by
        cases e : lets l with
        | nil => exact (hd e).elim
        | cons a b => simp
      omega
/-- where the result of a part stands: from p on, within l -/
def At (l : List UInt8) (p : Nat) : Res → Prop
  | .inl (_, q, r) => p ≤ q ∧ q - p ≤ l.length ∧ r = l.drop (q - p)
  | .inr q => p ≤ q ∧ q - p ≤ l.length
theorem At.up {l l' : List UInt8} {p k : Nat} {r : Res} (h : At l' (p + k) r) (hk : k ≤ l.length) (e : l' = l.drop k) : At l p r := by
  subst e
  rcases r with ⟨x, q, r⟩ | q
  · obtain ⟨a, b, c⟩ := h
    rw [List.length_drop] at b
    refine ⟨by omega, by omega, ?_⟩
    rw [c, List.drop_drop]
    congr 1
    omega
  · obtain ⟨a, b⟩ := h
    rw [List.length_drop] at b
    exact ⟨by omega, by omega⟩
theorem At.here (x : It) (l : List UInt8) (p : Nat) : At l p (.inl (x, p, l)) := ⟨Nat.le_refl _, by omega, by simp⟩
theorem at_tail {l : List UInt8} {c : UInt8} (h : l.head? = some c) : l = c :: l.tail ∧ l.tail = l.drop 1 ∧ 1 ≤ l.length := by
  cases l with
  | nil => cases h
  | cons a r =>
    obtain rfl : a = c := by simpa using h
    simp
theorem rStep_at (x : It) (l : List UInt8) (p : Nat) : At l p (rStep x l p) := by
  unfold rStep
  split
  · exact ⟨Nat.le_refl _, by omega⟩
  · rename_i n k h
    have := num_len h
    exact ⟨by omega, by omega, by congr 1; omega⟩
theorem rNums_at (x : It) (l : List UInt8) (p : Nat) : At l p (rNums x l p) := by
  unfold rNums
  split
  · rename_i h
    obtain ⟨_, a, b⟩ := at_tail h
    exact (rStep_at x _ _).up b a
  · exact At.here x l p
theorem rSec_at (K : Kd) (x : It) (l : List UInt8) (p : Nat) : At l p (rSec K x l p) := by
  unfold rSec
  split
  · exact ⟨Nat.le_refl _, by omega⟩
  · rename_i n k h
    exact (rNums_at _ _ _).up (value_len h).2 rfl
theorem rVal_at (K : Kd) (x : It) (l : List UInt8) (p : Nat) : At l p (rVal K x l p) := by
  unfold rVal
  split
  · rename_i h
    obtain ⟨_, a, b⟩ := at_tail h
    exact (rSec_at K x _ _).up b a
  · split
    · rename_i h
      obtain ⟨_, a, b⟩ := at_tail h
      exact (rStep_at _ _ _).up b a
    · exact At.here x l p
theorem item_at (K : Kd) (l : List UInt8) (p : Nat) : At l p (item K l p) := by
  unfold item
  split
  · rename_i h
    obtain ⟨_, a, b⟩ := at_tail h
    exact (rNums_at _ _ _).up b a
  · split
    · exact ⟨Nat.le_refl _, by omega⟩
    · rename_i h
      exact (rVal_at K _ _ _).up (value_len h).2 rfl
theorem item_len {K : Kd} {l r : List UInt8} {p q : Nat} {x : It} (h : item K l p = .inl (x, q, r)) : p ≤ q ∧ q - p ≤ l.length ∧ r = l.drop (q - p) := by
  have := item_at K l p
  rw [h] at this
  exact this
theorem item_fail {K : Kd} {l : List UInt8} {p q : Nat} (h : item K l p = .inr q) : p ≤ q ∧ q - p ≤ l.length := by
  have := item_at K l p
  rw [h] at this
  exact this

/-! the list of items -/
theorem scanF_fuel (K : Kd) : ∀ (n m : Nat) (l : List UInt8) (p : Nat), l.length < n → l.length < m → scanF K n l p = scanF K m l p := by
  intro n
  induction n with
  | zero => intro m l p h; omega
  | succ n ih =>
    intro m l p h1 h2
    cases m with
    | zero => omega
    | succ m =>
      unfold scanF
      cases h : item K l p with
      | inr q => rfl
      | inl o =>
        obtain ⟨x, q, r⟩ := o
        obtain ⟨_, a, b⟩ := item_len h
        have hl : r.length ≤ l.length := by rw [b, List.length_drop]; omega
        show (if r = [] then _ else _) = (if r = [] then _ else _)
        split
        · rfl
        · rename_i hr
          have : r.tail.length < l.length := by
            cases r with
            | nil => exact (hr rfl).elim
            | cons a b => simp at hl ⊢; omega
          rw [ih m r.tail (q + 1) (by omega) (by omega)]
/-- what follows what has been read of an item -/
def go (K : Kd) : Res → List It × Option Nat
  | .inr q => ([], some q)
  | .inl (x, q, r) => if r = [] then ([x], none) else if r.head? = some 44 then (x :: (scan K r.tail (q + 1)).1, (scan K r.tail (q + 1)).2) else ([], some q)
theorem scan_go (K : Kd) (l : List UInt8) (p : Nat) : scan K l p = go K (item K l p) := by
  unfold scan
  rw [scanF]
  cases h : item K l p with
  | inr q => rfl
  | inl o =>
    obtain ⟨x, q, r⟩ := o
    obtain ⟨_, a, b⟩ := item_len h
    have hl : r.length ≤ l.length := by rw [b, List.length_drop]; omega
    show (if r = [] then _ else _) = (if r = [] then _ else _)
    split
    · rfl
    · rename_i hr
      have : r.tail.length < l.length := by
        cases r with
        | nil => exact (hr rfl).elim
        | cons a b => simp at hl ⊢; omega
      unfold scan
      rw [scanF_fuel K l.length (r.tail.length + 1) r.tail (q + 1) (by omega) (by omega)]
theorem go_end (K : Kd) (x : It) (q : Nat) : go K (.inl (x, q, [])) = ([x], none) := rfl
theorem go_comma (K : Kd) (x : It) (q : Nat) (r : List UInt8) : go K (.inl (x, q, 44 :: r)) = (x :: (scan K r (q + 1)).1, (scan K r (q + 1)).2) := by
  simp [go]
theorem go_junk (K : Kd) (x : It) (q : Nat) (c : UInt8) (r : List UInt8) (h : c ≠ 44) : go K (.inl (x, q, c :: r)) = ([], some q) := by
  simp [go, h]
theorem go_fail (K : Kd) (q : Nat) : go K (.inr q) = ([], some q) := rfl

/-! what is wrong, and sets -/
def has (K : Kd) (v : Nat) : Prop := (K.lo ≤ v ∧ v ≤ K.hi) ∨ (K.week = true ∧ v = 7)
instance (K : Kd) (v : Nat) : Decidable (has K v) := by unfold has; infer_instance
def wrong (K : Kd) (x : It) : Option Nat :=
  if ¬ has K x.f then some x.fa else if ¬ has K x.s then some x.sa else if x.s < x.f then some x.fa else if x.t = 0 then some x.ta else none
def fold7 (K : Kd) (S : Nat) : Nat := if K.week = true ∧ S.testBit 7 = true then (S &&& (18446744073709551615 - 128)) ||| 1 else S
def setOf (K : Kd) (x : It) : Nat := fold7 K (Bit.rangeS x.f x.s x.t)
def total (K : Kd) (xs : List It) : Nat := xs.foldl (fun S x => S ||| setOf K x) 0
def bad (K : Kd) (xs : List It) : Option Nat := xs.findSome? (wrong K)
/-- what Parse returns for a valid kind: the set, whether the field is a star, the place, the error -/
def parse (K : Kd) (l : List UInt8) : Nat × Bool × Nat × Nat :=
  match (scan K l 0).2 with
  | some q => (0, false, q, 10)
  | none => match bad K (scan K l 0).1 with
    | some a => (0, false, a, 2)
    | none => (total K (scan K l 0).1, l == [42], 0, 0)
theorem wrong_none {K : Kd} {x : It} : wrong K x = none ↔ has K x.f ∧ has K x.s ∧ x.f ≤ x.s ∧ 1 ≤ x.t := by
  unfold wrong
  constructor
  · intro h
    split at h
    · cases h
    · split at h
      · cases h
      · split at h
        · cases h
        · split at h
          · cases h
          · rename_i a b c d
            refine ⟨by simpa using a, by simpa using b, by omega, by omega⟩
  · rintro ⟨a, b, c, d⟩
    rw [if_neg (by simpa using a), if_neg (by simpa using b), if_neg (by omega), if_neg (by omega)]
theorem total_snoc (K : Kd) (xs : List It) (x : It) : total K (xs ++ [x]) = total K xs ||| setOf K x := by
  unfold total; rw [List.foldl_append]; rfl
theorem total_app (K : Kd) (xs ys : List It) : total K (xs ++ ys) = total K xs ||| total K ys := by
  unfold total
  rw [List.foldl_append]
  generalize xs.foldl (fun S x => S ||| setOf K x) 0 = A
  have : ∀ (ys : List It) (A B : Nat), ys.foldl (fun S x => S ||| setOf K x) (A ||| B) = A ||| ys.foldl (fun S x => S ||| setOf K x) B := by
    intro ys
    induction ys with
    | nil => intro A B; rfl
    | cons y r ih => intro A B; simp only [List.foldl_cons]; rw [Nat.or_assoc, ih]
  have h := this ys A 0
  simpa using h
theorem bad_snoc (K : Kd) (xs : List It) (x : It) : bad K (xs ++ [x]) = (bad K xs).or (wrong K x) := by
  unfold bad
  rw [List.findSome?_append]
  congr 1
  simp only [List.findSome?_cons, List.findSome?_nil]
  cases wrong K x <;> rfl
theorem bad_app (K : Kd) (xs ys : List It) : bad K (xs ++ ys) = (bad K xs).or (bad K ys) := by
  unfold bad
  rw [List.findSome?_append]
theorem bad_none {K : Kd} {xs : List It} : bad K xs = none ↔ ∀ x ∈ xs, wrong K x = none := by
  unfold bad; rw [List.findSome?_eq_none_iff]
theorem has_lt {K : Kd} (O : K.Ok) {v : Nat} (h : has K v) : v < 63 := by
  rcases h with ⟨_, h⟩ | ⟨_, h⟩
  · have := O.hi; omega
  · omega
/-- the numbers of an item that is right -/
theorem setOf_bit {K : Kd} (O : K.Ok) {x : It} (h : wrong K x = none) (v : Nat) :
    (setOf K x).testBit v = decide ((K.lo ≤ v ∧ v ≤ K.hi) ∧ ((x.f ≤ v ∧ v ≤ x.s ∧ (v - x.f) % x.t = 0) ∨ (K.week = true ∧ v = 0 ∧ x.f ≤ 7 ∧ 7 ≤ x.s ∧ (7 - x.f) % x.t = 0))) := by
  obtain ⟨h1, h2, h3, h4⟩ := wrong_none.1 h
  have b := fun v => Bit.rangeS_bit (lo := x.f) (hi := x.s) (step := x.t) (v := v) h3 h4
  have hs := has_lt O h2
  unfold setOf fold7
  by_cases w : K.week = true
  · obtain ⟨w1, w2⟩ := O.week w
    unfold has at h1 h2
    by_cases c : (Bit.rangeS x.f x.s x.t).testBit 7 = true
    · rw [if_pos ⟨w, c⟩, Nat.testBit_or, Nat.testBit_and]
      rw [b] at c
      have c := of_decide_eq_true c
      have m : (18446744073709551615 - 128 : Nat).testBit v = (decide (v < 64) && !decide (v = 7)) := by
        have e : (18446744073709551615 - 128 : Nat) = 2 ^ 64 - (128 + 1) := by decide
        rw [e, Nat.testBit_two_pow_sub_succ (by decide), show (128 : Nat) = 2 ^ 7 from rfl, Nat.testBit_two_pow]
        congr 2
        rw [Bool.eq_iff_iff]
        simp only [decide_eq_true_iff]
        omega
      have o : (1 : Nat).testBit v = decide (v = 0) := by
        rw [show (1 : Nat) = 2 ^ 0 from rfl, Nat.testBit_two_pow]
        rw [Bool.eq_iff_iff]
        simp only [decide_eq_true_iff]
        omega
      rw [b, m, o, Bool.eq_iff_iff]
      simp only [Bool.or_eq_true, Bool.and_eq_true, decide_eq_true_iff, Bool.not_eq_true', decide_eq_false_iff_not, w1, w2, w, true_and]
      constructor
      · rintro (⟨⟨a1, a2, a3⟩, a4, a5⟩ | rfl)
        · exact ⟨⟨by omega, by omega⟩, .inl ⟨a1, a2, a3⟩⟩
        · exact ⟨⟨by omega, by omega⟩, .inr ⟨rfl, c.1, c.2.1, c.2.2⟩⟩
      · rintro ⟨⟨_, a1⟩, (⟨a2, a3, a4⟩ | ⟨rfl, _⟩)⟩
        · exact .inl ⟨⟨a2, a3, a4⟩, by omega, by omega⟩
        · exact .inr rfl
    · rw [if_neg (fun q => c q.2), b]
      rw [b] at c
      have c : ¬ (x.f ≤ 7 ∧ 7 ≤ x.s ∧ (7 - x.f) % x.t = 0) := by simpa using c
      rw [Bool.eq_iff_iff]
      simp only [decide_eq_true_iff, w1, w2, w, true_and]
      constructor
      · rintro ⟨a1, a2, a3⟩
        have : v ≠ 7 := by rintro rfl; exact c ⟨a1, a2, a3⟩
        exact ⟨⟨by omega, by omega⟩, .inl ⟨a1, a2, a3⟩⟩
      · rintro ⟨_, (a | ⟨_, a⟩)⟩
        · exact a
        · exact (c a).elim
  · have w0 : K.week = false := by simpa using w
    rw [if_neg (fun q => w q.1), b, Bool.eq_iff_iff]
    unfold has at h1 h2
    rw [w0] at h1 h2 ⊢
    simp only [decide_eq_true_iff]
    constructor
    · rintro ⟨a1, a2, a3⟩
      refine ⟨⟨?_, ?_⟩, .inl ⟨a1, a2, a3⟩⟩
      · rcases h1 with h1 | ⟨q, _⟩
        · omega
        · cases q
      · rcases h2 with h2 | ⟨q, _⟩
        · omega
        · cases q
    · rintro ⟨_, (a | ⟨a, _⟩)⟩
      · exact a
      · cases a
end Go.Proofs.YtpnfifhanmpapaaGreatDoor.Fld
/- Plain mathematics of texts that are cut at some of their bytes: pieces, lines, words. No program stands here. -/
namespace Go.Proofs.YtpnfifhanmpapaaGreatDoor.Lex
/-- how many of the first k bytes separate -/
def cnt (b : Nat → Bool) : Nat → Nat
  | 0 => 0
  | k + 1 => if b k then cnt b k + 1 else cnt b k
/-- the pieces that end before byte k, and where the next one begins -/
def cut (b : Nat → Bool) : Nat → List (Nat × Nat) × Nat
  | 0 => ([], 0)
  | k + 1 => if b k then ((cut b k).1 ++ [((cut b k).2, k)], k + 1) else cut b k
/-- the pieces of n bytes: where each begins, and where it ends -/
def pcs (b : Nat → Bool) (n : Nat) : List (Nat × Nat) := (cut b n).1 ++ (if (cut b n).2 < n then [((cut b n).2, n)] else [])

theorem cut_yes {b : Nat → Bool} {k : Nat} (h : b k = true) : cut b (k + 1) = ((cut b k).1 ++ [((cut b k).2, k)], k + 1) := by simp [cut, h]
theorem cut_no {b : Nat → Bool} {k : Nat} (h : b k = false) : cut b (k + 1) = cut b k := by simp [cut, h]
theorem cnt_yes {b : Nat → Bool} {k : Nat} (h : b k = true) : cnt b (k + 1) = cnt b k + 1 := by simp [cnt, h]
theorem cnt_no {b : Nat → Bool} {k : Nat} (h : b k = false) : cnt b (k + 1) = cnt b k := by simp [cnt, h]
theorem cnt_le (b : Nat → Bool) (k : Nat) : cnt b k ≤ k := by
  induction k with
  | zero => simp [cnt]
  | succ k ih => simp only [cnt]; split <;> omega
theorem cnt_mono (b : Nat → Bool) {j k : Nat} (h : j ≤ k) : cnt b j ≤ cnt b k := by
  induction k with
  | zero => obtain rfl : j = 0 := by omega
            exact Nat.le_refl _
  | succ k ih =>
    rcases Nat.lt_or_ge k j with c | c
    · obtain rfl : j = k + 1 := by omega
      exact Nat.le_refl _
    · have := ih c
      simp only [cnt]; split <;> omega
theorem cnt_same (b : Nat → Bool) {f t : Nat} (h : f ≤ t) (hn : ∀ j, f ≤ j → j < t → b j = false) : cnt b t = cnt b f := by
  induction t with
  | zero => obtain rfl : f = 0 := by omega
            rfl
  | succ t ih =>
    rcases Nat.lt_or_ge t f with c | c
    · obtain rfl : f = t + 1 := by omega
      rfl
    · rw [cnt_no (hn t c (by omega)), ih c (fun j a e => hn j a (by omega))]

theorem snoc_next {L : List (Nat × Nat)} {f x : Nat} (hlast : ∀ h : L ≠ [], f = (L.getLast h).2 + 1) (hnext : ∀ i (h : i + 1 < L.length), L[i + 1].1 = L[i].2 + 1)
    (i : Nat) (h : i + 1 < (L ++ [(f, x)]).length) : (L ++ [(f, x)])[i + 1].1 = (L ++ [(f, x)])[i].2 + 1 := by
  simp only [List.length_append, List.length_cons, List.length_nil] at h
  rcases Nat.lt_or_ge (i + 1) L.length with c | c
  · simp only [List.getElem_append_left c, List.getElem_append_left (show i < L.length by omega)]
    exact hnext i c
  · have e : i + 1 = L.length := by omega
    have ne : L ≠ [] := by rintro rfl; simp at e
    have hla := hlast ne
    rw [List.getLast_eq_getElem] at hla
    rw [List.getElem_append_right (by omega), List.getElem_append_left (show i < L.length by omega)]
    simp only [e, Nat.sub_self, List.getElem_cons_zero]
    have ei : L.length - 1 = i := by omega
    exact hla.trans (by simp only [ei])
/-- what is known of the pieces of k bytes -/
structure Known (b : Nat → Bool) (k : Nat) (L : List (Nat × Nat)) (f : Nat) : Prop where
  len : L.length = cnt b k
  fk : f ≤ k
  no : ∀ j, f ≤ j → j < k → b j = false
  first : L = [] → f = 0
  last : ∀ h : L ≠ [], f = (L.getLast h).2 + 1
  at_ : ∀ i (h : i < L.length), L[i].1 ≤ L[i].2 ∧ L[i].2 < f ∧ b L[i].2 = true ∧ (∀ j, L[i].1 ≤ j → j < L[i].2 → b j = false) ∧ cnt b L[i].1 = i
  zero : ∀ h : 0 < L.length, L[0].1 = 0
  next : ∀ i (h : i + 1 < L.length), L[i + 1].1 = L[i].2 + 1
theorem known (b : Nat → Bool) (k : Nat) : Known b k (cut b k).1 (cut b k).2 := by
  induction k with
  | zero => exact ⟨rfl, Nat.le_refl _, fun j a c => by omega, fun _ => rfl, fun h => (h rfl).elim, fun i h => by simp [cut] at h, fun h => by simp [cut] at h, fun i h => by simp [cut] at h⟩
  | succ k ih =>
    by_cases hb : b k = true
    · rw [cut_yes hb]
      generalize hL : (cut b k).1 = L at ih
      generalize hf : (cut b k).2 = f at ih
      have hl := ih.len
      have hcf : cnt b f = L.length := by rw [hl]; exact (cnt_same b ih.fk ih.no).symm
      refine ⟨?_, ?_, ?_, ?_, ?_, ?_, ?_, ?_⟩
      · rw [cnt_yes hb]; simp [hl]
      · exact Nat.le_refl _
      · intro j a c
        have := ih.fk
        simp only at a c
        omega
      · intro h; simp at h
      · intro h; simp
      · intro i h
        simp only [List.length_append, List.length_cons, List.length_nil] at h
        rcases Nat.lt_or_ge i L.length with c | c
        · have q := ih.at_ i c
          have := ih.fk
          simp only [List.getElem_append_left c]
          exact ⟨q.1, by omega, q.2.2⟩
        · obtain rfl : i = L.length := by omega
          simp only [List.getElem_append_right (Nat.le_refl _), Nat.sub_self, List.getElem_cons_zero]
          exact ⟨ih.fk, by omega, hb, fun j a e => ih.no j a e, hcf⟩
      · intro h
        cases L with
        | nil => exact ih.first rfl
        | cons x L => exact ih.zero (by simp)
      · exact snoc_next ih.last ih.next
    · have hb : b k = false := by simpa using hb
      rw [cut_no hb]
      refine ⟨by rw [cnt_no hb]; exact ih.len, by have := ih.fk; omega, fun j a c => ?_, ih.first, ih.last, fun i h => ?_, ih.zero, ih.next⟩
      · rcases Nat.lt_or_ge j k with q | q
        · exact ih.no j a q
        · obtain rfl : j = k := by omega
          exact hb
      · exact ih.at_ i h

theorem cut_le (b : Nat → Bool) (k : Nat) : (cut b k).2 ≤ k := (known b k).fk
theorem cut_prefix (b : Nat → Bool) {j k : Nat} (h : j ≤ k) : (cut b j).1 <+: (cut b k).1 := by
  induction k with
  | zero => obtain rfl : j = 0 := by omega
            exact List.prefix_refl _
  | succ k ih =>
    rcases Nat.lt_or_ge k j with c | c
    · obtain rfl : j = k + 1 := by omega
      exact List.prefix_refl _
    · by_cases hb : b k = true
      · rw [cut_yes hb]
        exact (ih c).trans (List.prefix_append _ _)
      · rw [cut_no (by simpa using hb)]
        exact ih c
theorem cut_pcs (b : Nat → Bool) {j n : Nat} (h : j ≤ n) : (cut b j).1 <+: pcs b n := (cut_prefix b h).trans (List.prefix_append _ _)
theorem cut_len (b : Nat → Bool) (k : Nat) : (cut b k).1.length ≤ k := by rw [(known b k).len]; exact cnt_le b k
theorem pcs_len (b : Nat → Bool) (n : Nat) : (pcs b n).length ≤ n := by
  have K := known b n
  have hc := cnt_same b K.fk K.no
  have := cnt_le b (cut b n).2
  have := K.len
  have := K.fk
  unfold pcs
  split <;> simp <;> omega
/-- each piece of n bytes -/
structure Piece (b : Nat → Bool) (n i : Nat) (x : Nat × Nat) : Prop where
  le : x.1 ≤ x.2
  top : x.2 ≤ n
  no : ∀ j, x.1 ≤ j → j < x.2 → b j = false
  cntb : Lex.cnt b x.1 = i
  ends : x.2 < n → b x.2 = true
  more : x.2 = n → x.1 < x.2
theorem piece (b : Nat → Bool) (n i : Nat) (h : i < (pcs b n).length) : Piece b n i (pcs b n)[i] := by
  have K := known b n
  have hc := cnt_same b K.fk K.no
  unfold pcs at h ⊢
  generalize hL : (cut b n).1 = L at *
  generalize hf : (cut b n).2 = f at *
  rcases Nat.lt_or_ge i L.length with c | c
  · have q := K.at_ i c
    have := K.fk
    simp only [List.getElem_append_left c]
    exact ⟨q.1, by omega, q.2.2.2.1, q.2.2.2.2, fun _ => q.2.2.1, fun e => by omega⟩
  · simp only [List.getElem_append_right c]
    by_cases hlt : f < n
    · simp only [hlt, if_true, List.length_append, List.length_cons, List.length_nil] at h ⊢
      obtain rfl : i = L.length := by omega
      simp only [Nat.sub_self, List.getElem_cons_zero]
      exact ⟨by simp; omega, Nat.le_refl _, K.no, by have := K.len; simp only; omega, fun h => by simp at h, fun _ => hlt⟩
    · simp only [hlt, if_false, List.append_nil] at h
      omega
theorem pcs_zero (b : Nat → Bool) (n : Nat) (h : 0 < (pcs b n).length) : (pcs b n)[0].1 = 0 := by
  have K := known b n
  unfold pcs at h ⊢
  generalize hL : (cut b n).1 = L at *
  generalize hf : (cut b n).2 = f at *
  cases L with
  | cons x L => exact K.zero (by simp)
  | nil =>
    have := K.first rfl
    subst this
    by_cases hlt : 0 < n
    · simp [hlt]
    · simp [hlt] at h
theorem pcs_next (b : Nat → Bool) (n i : Nat) (h : i + 1 < (pcs b n).length) : (pcs b n)[i + 1].1 = ((pcs b n)[i]'(by omega)).2 + 1 := by
  have K := known b n
  by_cases hlt : (cut b n).2 < n
  · have e : pcs b n = (cut b n).1 ++ [((cut b n).2, n)] := by simp [pcs, hlt]
    have h' : i + 1 < ((cut b n).1 ++ [((cut b n).2, n)]).length := by rw [← e]; exact h
    have q := snoc_next K.last K.next i h'
    simp only [e]
    exact q
  · have e : pcs b n = (cut b n).1 := by simp [pcs, hlt]
    have h' : i + 1 < (cut b n).1.length := by rw [← e]; exact h
    simp only [e]
    exact K.next i h'
end Go.Proofs.YtpnfifhanmpapaaGreatDoor.Lex
/- Plain mathematics of words and lines: what lies between words, the words of words that are joined, the lines put together again. No program stands here. -/
namespace Go.Proofs.YtpnfifhanmpapaaGreatDoor.Lex
/-- the pieces that are not empty -/
def full (l : List (Nat × Nat)) : List (Nat × Nat) := l.filter fun x => decide (x.1 < x.2)
theorem full_snoc_yes {l : List (Nat × Nat)} {f t : Nat} (h : f < t) : full (l ++ [(f, t)]) = full l ++ [(f, t)] := by simp [full, h]
theorem full_snoc_no {l : List (Nat × Nat)} {f t : Nat} (h : ¬ f < t) : full (l ++ [(f, t)]) = full l := by simp [full, h]
theorem full_len (l : List (Nat × Nat)) : (full l).length ≤ l.length := List.length_filter_le _ _
/-- where the last one ends -/
def ends (l : List (Nat × Nat)) : Nat := (l.getLast?.map (·.2)).getD 0
theorem ends_snoc (l : List (Nat × Nat)) (x : Nat × Nat) : ends (l ++ [x]) = x.2 := by simp [ends]
theorem ends_nil : ends [] = 0 := rfl
theorem ends_take (l : List (Nat × Nat)) (i : Nat) (h : i < l.length) : ends (l.take (i + 1)) = l[i].2 := by
  rw [List.take_succ_eq_append_getElem h, ends_snoc]

/-- what is known of the words W of the bytes before f: b says what a blank is -/
structure Words (b : Nat → Bool) (f : Nat) (W : List (Nat × Nat)) : Prop where
  at_ : ∀ i (h : i < W.length), W[i].1 < W[i].2 ∧ W[i].2 ≤ f ∧ ends (W.take i) ≤ W[i].1 ∧ (0 < i → ends (W.take i) < W[i].1) ∧ (∀ j, W[i].1 ≤ j → j < W[i].2 → b j = false) ∧ (∀ j, ends (W.take i) ≤ j → j < W[i].1 → b j = true)
  gap : ∀ j, ends W ≤ j → j < f → b j = true
  le : ends W ≤ f
theorem Words.snoc {b : Nat → Bool} {f k t : Nat} {W : List (Nat × Nat)} (h : Words b f W) (hf : f < k) (ht : k ≤ t) (hW : W ≠ [] → ends W < f) (hno : ∀ j, f ≤ j → j < k → b j = false) (hg : ∀ j, k ≤ j → j < t → b j = true) : Words b t (W ++ [(f, k)]) := by
  refine ⟨fun i hi => ?_, fun j a c => ?_, ?_⟩
  · simp only [List.length_append, List.length_cons, List.length_nil] at hi
    rcases Nat.lt_or_ge i W.length with c | c
    · have q := h.at_ i c
      rw [List.take_append_of_le_length (by omega)]
      simp only [List.getElem_append_left c]
      exact ⟨q.1, by omega, q.2.2⟩
    · obtain rfl : i = W.length := by omega
      rw [List.take_append_of_le_length (Nat.le_refl _), List.take_length]
      simp only [List.getElem_append_right (Nat.le_refl _), Nat.sub_self, List.getElem_cons_zero]
      have := h.le
      exact ⟨hf, ht, h.le, fun p => hW (by rintro rfl; simp at p), hno, h.gap⟩
  · rw [ends_snoc] at a
    exact hg j a c
  · rw [ends_snoc]; exact ht
theorem cut_words (b : Nat → Bool) (k : Nat) : Words b (cut b k).2 (full (cut b k).1) ∧ (full (cut b k).1 ≠ [] → ends (full (cut b k).1) < (cut b k).2) := by
  induction k with
  | zero => exact ⟨⟨fun i h => by simp [cut, full] at h, fun j a c => by simp [cut] at c, by simp [cut, full, ends]⟩, fun h => by simp [cut, full] at h⟩
  | succ k ih =>
    have K := known b k
    by_cases hb : b k = true
    · rw [cut_yes hb]
      generalize (cut b k).1 = L at *
      generalize (cut b k).2 = f at *
      have fk := K.fk
      by_cases hf : f < k
      · simp only [full_snoc_yes hf]
        refine ⟨ih.1.snoc hf (by omega) ih.2 K.no fun j a c => ?_, fun _ => by rw [ends_snoc]; simp⟩
        obtain rfl : j = k := by omega
        exact hb
      · simp only [full_snoc_no hf]
        obtain rfl : f = k := by omega
        refine ⟨⟨fun i h => ?_, fun j a c => ?_, by have := ih.1.le; omega⟩, fun h => by have := ih.2 h; omega⟩
        · have q := ih.1.at_ i h
          exact ⟨q.1, by omega, q.2.2⟩
        · rcases Nat.lt_or_ge j f with d | d
          · exact ih.1.gap j a d
          · obtain rfl : j = f := by omega
            exact hb
    · rw [cut_no (by simpa using hb)]
      exact ih
theorem pcs_words (b : Nat → Bool) (n : Nat) : Words b n (full (pcs b n)) := by
  have K := known b n
  have q := cut_words b n
  have fk := K.fk
  unfold pcs
  by_cases hf : (cut b n).2 < n
  · rw [if_pos hf, full_snoc_yes hf]
    exact q.1.snoc hf (Nat.le_refl _) q.2 K.no fun j a c => by omega
  · rw [if_neg hf, List.append_nil]
    have e : (cut b n).2 = n := by omega
    have q1 := q.1
    rw [e] at q1
    exact q1

/-! words, byte by byte -/
section
variable {α : Type}
/-- the bytes of a piece -/
def part (l : List α) (x : Nat × Nat) : List α := (l.take x.2).drop x.1
/-- the words of the bytes to come, behind those of a word that is under way -/
def wl (p : α → Bool) : List α → List α → List (List α)
  | acc, [] => if acc.isEmpty then [] else [acc]
  | acc, c :: r => if p c then (if acc.isEmpty then wl p [] r else acc :: wl p [] r) else wl p (acc ++ [c]) r
theorem part_len (l : List α) (x : Nat × Nat) (h : x.2 ≤ l.length) : (part l x).length = x.2 - x.1 := by simp [part]; omega
theorem part_snoc (l : List α) (f k : Nat) (hf : f ≤ k) (h : k < l.length) : part l (f, k + 1) = part l (f, k) ++ [l[k]] := by
  unfold part
  simp only
  rw [List.take_succ_eq_append_getElem h, List.drop_append_of_le_length (by simp; omega)]
theorem part_self (l : List α) (k : Nat) : part l (k, k) = [] := by
  unfold part
  exact List.drop_eq_nil_of_le (by simp; omega)
theorem part_ne {l : List α} {f k : Nat} (hf : f < k) (h : k ≤ l.length) : (part l (f, k)).isEmpty = false := by
  have := part_len l (f, k) h
  cases e : part l (f, k) with
  | nil => rw [e] at this; simp at this; omega
  | cons x r => rfl
theorem wl_cut (p : α → Bool) (l : List α) (b : Nat → Bool) (hb : ∀ k (h : k < l.length), b k = p l[k]) (k : Nat) (hk : k ≤ l.length) :
    wl p [] l = (full (cut b k).1).map (part l) ++ wl p (part l ((cut b k).2, k)) (l.drop k) := by
  induction k with
  | zero => simp [cut, full, part_self]
  | succ k ih =>
    have hk' : k < l.length := by omega
    have K := known b k
    have fk := K.fk
    rw [ih (by omega), List.drop_eq_getElem_cons hk']
    have e := hb k hk'
    by_cases c : b k = true
    · rw [cut_yes c]
      rw [e] at c
      by_cases hf : (cut b k).2 < k
      · rw [full_snoc_yes hf]
        simp only [part_self]
        rw [wl, if_pos c, part_ne hf (by omega)]
        simp
      · rw [full_snoc_no hf]
        have ek : (cut b k).2 = k := by omega
        rw [ek]
        simp only [part_self]
        rw [wl, if_pos c]
        simp
    · have c' : b k = false := by simpa using c
      rw [cut_no c']
      rw [e] at c'
      rw [wl, if_neg (by rw [c']; simp), part_snoc l _ k fk hk']
theorem wl_pcs (p : α → Bool) (l : List α) (b : Nat → Bool) (hb : ∀ k (h : k < l.length), b k = p l[k]) : wl p [] l = (full (pcs b l.length)).map (part l) := by
  have K := known b l.length
  have fk := K.fk
  rw [wl_cut p l b hb l.length (Nat.le_refl _), List.drop_length]
  unfold pcs
  by_cases hf : (cut b l.length).2 < l.length
  · rw [if_pos hf, full_snoc_yes hf, wl, part_ne hf (Nat.le_refl _)]
    simp
  · rw [if_neg hf]
    have e : (cut b l.length).2 = l.length := by omega
    rw [e, part_self]
    simp [wl]
theorem wl_word (p : α → Bool) (w r : List α) (hw : ∀ c ∈ w, p c = false) (acc : List α) : wl p acc (w ++ r) = wl p (acc ++ w) r := by
  induction w generalizing acc with
  | nil => simp
  | cons c w ih =>
    rw [List.cons_append, wl, if_neg (by rw [hw c (by simp)]; simp), ih (fun d hd => hw d (by simp [hd]))]
    simp
theorem wl_blanks (p : α → Bool) (s r : List α) (hs : ∀ c ∈ s, p c = true) : wl p [] (s ++ r) = wl p [] r := by
  induction s with
  | nil => rfl
  | cons c s ih =>
    rw [List.cons_append, wl, if_pos (hs c (by simp)), ih (fun d hd => hs d (by simp [hd]))]
    simp
theorem wl_sep (p : α → Bool) (s r : List α) (hs : ∀ c ∈ s, p c = true) (ne : s ≠ []) (acc : List α) (ha : acc.isEmpty = false) : wl p acc (s ++ r) = acc :: wl p [] r := by
  cases s with
  | nil => exact (ne rfl).elim
  | cons c s =>
    rw [List.cons_append, wl, if_pos (hs c (by simp)), ha, wl_blanks p s r (fun d hd => hs d (by simp [hd]))]
    simp
/-- texts, one behind the other, with sep between two of them -/
def joinL (sep : List α) : List (List α) → List α
  | [] => []
  | [w] => w
  | w :: v :: r => w ++ (sep ++ joinL sep (v :: r))
theorem wl_join (p : α → Bool) (sep : List α) (hs : ∀ c ∈ sep, p c = true) (ne : sep ≠ []) : ∀ ws : List (List α), (∀ w ∈ ws, w.isEmpty = false ∧ ∀ c ∈ w, p c = false) → wl p [] (joinL sep ws) = ws
  | [], _ => by simp [joinL, wl]
  | [w], h => by
    have q := h w (by simp)
    have e := wl_word p w [] q.2 []
    rw [List.append_nil] at e
    rw [joinL, e, wl, List.nil_append, q.1]
    simp
  | w :: v :: r, h => by
    have q := h w (by simp)
    rw [joinL, wl_word p w _ q.2, List.nil_append, wl_sep p sep _ hs ne w q.1, wl_join p sep hs ne (v :: r) (fun u hu => h u (by simp [hu]))]
theorem joinL_len (sep : List α) : ∀ ws : List (List α), (joinL sep ws).length ≤ (ws.map List.length).sum + ws.length * sep.length
  | [] => by simp [joinL]
  | [w] => by simp [joinL]
  | w :: v :: r => by
    have := joinL_len sep (v :: r)
    simp only [joinL, List.length_append, List.map_cons, List.sum_cons, List.length_cons, Nat.add_mul] at this ⊢
    omega

/-! lines, put together again -/
theorem lines_cut (l : List α) (e : α) (b : Nat → Bool) (hb : ∀ k (h : k < l.length), b k = true → l[k] = e) (k : Nat) (hk : k ≤ l.length) :
    ((cut b k).1.flatMap fun x => part l x ++ [e]) = l.take (cut b k).2 := by
  induction k with
  | zero => simp [cut]
  | succ k ih =>
    have hk' : k < l.length := by omega
    have fk := (known b k).fk
    by_cases c : b k = true
    · rw [cut_yes c]
      simp only [List.flatMap_append, List.flatMap_cons, List.flatMap_nil, List.append_nil]
      rw [ih (by omega), List.take_succ_eq_append_getElem hk', hb k hk' c, ← List.append_assoc]
      congr 1
      unfold part
      simp only
      have := List.take_append_drop (cut b k).2 (l.take k)
      rw [List.take_take, Nat.min_eq_left fk] at this
      exact this
    · rw [cut_no (by simpa using c)]
      exact ih (by omega)
/-- the lines, each with a line feed: the text where it is empty or ends with one, else the text with one behind it -/
theorem lines_back (l : List α) (e : α) (b : Nat → Bool) (hb : ∀ k (h : k < l.length), b k = true → l[k] = e) :
    ((pcs b l.length).flatMap fun x => part l x ++ [e]) = if (cut b l.length).2 < l.length then l ++ [e] else l := by
  have fk := (known b l.length).fk
  unfold pcs
  rw [List.flatMap_append, lines_cut l e b hb l.length (Nat.le_refl _)]
  by_cases hf : (cut b l.length).2 < l.length
  · rw [if_pos hf, if_pos hf]
    simp only [List.flatMap_cons, List.flatMap_nil, List.append_nil]
    rw [← List.append_assoc]
    congr 1
    unfold part
    simp only [List.take_length]
    exact List.take_append_drop _ _
  · rw [if_neg hf, if_neg hf]
    have e : (cut b l.length).2 = l.length := by omega
    simp [e]
end
/-- nothing is left behind the last separating byte just where the bytes end with one, or are none -/
theorem rest_iff (b : Nat → Bool) (n : Nat) : (cut b n).2 < n ↔ ¬ (n = 0 ∨ (0 < n ∧ b (n - 1) = true)) := by
  have K := known b n
  constructor
  · intro h
    have := K.no (n - 1) (by omega) (by omega)
    rw [this]
    simp
    omega
  · intro h
    have fk := K.fk
    rcases Nat.lt_or_ge (cut b n).2 n with c | c
    · exact c
    · exfalso
      have e : (cut b n).2 = n := by omega
      by_cases hn : n = 0
      · exact h (.inl hn)
      · have ne : (cut b n).1 ≠ [] := fun q => by have := K.first q; omega
        have hl := K.last ne
        rw [List.getLast_eq_getElem] at hl
        have hp : 0 < (cut b n).1.length := List.length_pos_iff.2 ne
        have q := (K.at_ ((cut b n).1.length - 1) (by omega)).2.2.1
        refine h (.inr ⟨by omega, ?_⟩)
        have : n - 1 = ((cut b n).1[(cut b n).1.length - 1]).2 := by omega
        rw [this]
        exact q
end Go.Proofs.YtpnfifhanmpapaaGreatDoor.Lex
/- Plain mathematics of the words of a text with their places, byte by byte; words with blanks between them. No program stands here. -/
namespace Go.Proofs.YtpnfifhanmpapaaGreatDoor.Lex
section
variable {α : Type}
/-- the words of the bytes to come, the first of which has the place i, with their places; acc: the bytes of a word that is under way -/
def wq (p : α → Bool) : Nat → List α → List α → List (Nat × List α)
  | i, acc, [] => if acc.isEmpty then [] else [(i - acc.length, acc)]
  | i, acc, c :: r => if p c then (if acc.isEmpty then wq p (i + 1) [] r else (i - acc.length, acc) :: wq p (i + 1) [] r) else wq p (i + 1) (acc ++ [c]) r
theorem wq_cut (p : α → Bool) (l : List α) (b : Nat → Bool) (hb : ∀ k (h : k < l.length), b k = p l[k]) (k : Nat) (hk : k ≤ l.length) :
    wq p 0 [] l = (full (cut b k).1).map (fun x => (x.1, part l x)) ++ wq p k (part l ((cut b k).2, k)) (l.drop k) := by
  induction k with
  | zero => simp [cut, full, part_self]
  | succ k ih =>
    have hk' : k < l.length := by omega
    have K := known b k
    have fk := K.fk
    rw [ih (by omega), List.drop_eq_getElem_cons hk']
    have e := hb k hk'
    by_cases c : b k = true
    · rw [cut_yes c]
      rw [e] at c
      by_cases hf : (cut b k).2 < k
      · rw [full_snoc_yes hf]
        simp only [part_self]
        rw [wq, if_pos c, part_ne hf (by omega), part_len l _ (by simp only; omega)]
        have e2 : k - (k - (cut b k).2) = (cut b k).2 := by omega
        simp [e2]
      · rw [full_snoc_no hf]
        have ek : (cut b k).2 = k := by omega
        rw [ek]
        simp only [part_self]
        rw [wq, if_pos c]
        simp
    · have c' : b k = false := by simpa using c
      rw [cut_no c']
      rw [e] at c'
      rw [wq, if_neg (by rw [c']; simp), part_snoc l _ k fk hk']
theorem wq_pcs (p : α → Bool) (l : List α) (b : Nat → Bool) (hb : ∀ k (h : k < l.length), b k = p l[k]) : wq p 0 [] l = (full (pcs b l.length)).map (fun x => (x.1, part l x)) := by
  have K := known b l.length
  have fk := K.fk
  rw [wq_cut p l b hb l.length (Nat.le_refl _), List.drop_length]
  unfold pcs
  by_cases hf : (cut b l.length).2 < l.length
  · rw [if_pos hf, full_snoc_yes hf, wq, part_ne hf (Nat.le_refl _), part_len l _ (Nat.le_refl _)]
    have e2 : l.length - (l.length - (cut b l.length).2) = (cut b l.length).2 := by omega
    simp [e2]
  · rw [if_neg hf]
    have e : (cut b l.length).2 = l.length := by omega
    rw [e, part_self]
    simp [wq]
theorem wq_word (p : α → Bool) (w r : List α) (hw : ∀ c ∈ w, p c = false) (i : Nat) (acc : List α) : wq p i acc (w ++ r) = wq p (i + w.length) (acc ++ w) r := by
  induction w generalizing i acc with
  | nil => simp
  | cons c w ih =>
    rw [List.cons_append, wq, if_neg (by rw [hw c (by simp)]; simp), ih (fun d hd => hw d (by simp [hd]))]
    simp
    congr 1
    omega
theorem wq_blanks (p : α → Bool) (s r : List α) (hs : ∀ c ∈ s, p c = true) (i : Nat) : wq p i [] (s ++ r) = wq p (i + s.length) [] r := by
  induction s generalizing i with
  | nil => rfl
  | cons c s ih =>
    rw [List.cons_append, wq, if_pos (hs c (by simp)), List.isEmpty_nil, if_pos rfl, ih (fun d hd => hs d (by simp [hd]))]
    simp
    congr 1
    omega
theorem wq_all (p : α → Bool) (s : List α) (hs : ∀ c ∈ s, p c = true) (i : Nat) : wq p i [] s = [] := by
  have := wq_blanks p s [] hs i
  rw [List.append_nil] at this
  rw [this]
  simp [wq]
/-- a word ends at the end of the text, or at a blank -/
theorem wq_end (p : α → Bool) (acc r : List α) (ha : acc ≠ []) (hr : r = [] ∨ ∃ c t, r = c :: t ∧ p c = true) (i : Nat) : wq p i acc r = (i - acc.length, acc) :: wq p i [] r := by
  have ha' : acc.isEmpty = false := by
    cases acc with
    | nil => exact (ha rfl).elim
    | cons _ _ => rfl
  rcases hr with rfl | ⟨c, t, rfl, hc⟩
  · simp [wq, ha']
  · rw [wq, if_pos hc, wq, if_pos hc, ha']
    simp
/-- texts, each behind some blanks -/
def laid (xs : List (List α × List α)) : List α := xs.flatMap fun x => x.1 ++ x.2
theorem laid_cons (x : List α × List α) (xs : List (List α × List α)) : laid (x :: xs) = x.1 ++ (x.2 ++ laid xs) := by simp [laid]
/-- where they stand -/
def placed : Nat → List (List α × List α) → List (Nat × List α)
  | _, [] => []
  | i, x :: r => (i + x.1.length, x.2) :: placed (i + x.1.length + x.2.length) r
theorem placed_len (i : Nat) (xs : List (List α × List α)) : (placed i xs).length = xs.length := by
  induction xs generalizing i with
  | nil => rfl
  | cons x r ih => simp [placed, ih]
theorem placed_map (i : Nat) (xs : List (List α × List α)) : (placed i xs).map (·.2) = xs.map (·.2) := by
  induction xs generalizing i with
  | nil => rfl
  | cons x r ih => simp [placed, ih]
/-- words behind blanks, and blanks at the end -/
theorem wq_laid (p : α → Bool) : ∀ (xs : List (List α × List α)) (t : List α) (i : Nat), (∀ x ∈ xs, (∀ c ∈ x.1, p c = true) ∧ x.2 ≠ [] ∧ ∀ c ∈ x.2, p c = false) → (∀ x ∈ xs.tail, x.1 ≠ []) → (t = [] ∨ ∃ c r, t = c :: r ∧ p c = true) →
    wq p i [] (laid xs ++ t) = placed i xs ++ wq p (i + (laid xs).length) [] t
  | [], t, i, _, _, _ => by simp [laid, placed]
  | x :: r, t, i, h1, h2, h3 => by
    obtain ⟨a, b, c⟩ := h1 x (by simp)
    rw [laid_cons, List.append_assoc, wq_blanks p _ _ a, List.append_assoc, wq_word p _ _ c, List.nil_append]
    rw [wq_end p x.2 (laid r ++ t) b ?_, wq_laid p r t _ (fun y hy => h1 y (by simp [hy])) (fun y hy => h2 y (List.mem_of_mem_tail hy)) h3]
    · rw [placed]
      have e : i + x.1.length + x.2.length - x.2.length = i + x.1.length := by omega
      rw [e, List.cons_append]
      simp only [List.length_append]
      rw [show i + x.1.length + x.2.length + (laid r).length = i + (x.1.length + (x.2.length + (laid r).length)) by omega]
    · cases r with
      | nil => simpa [laid] using h3
      | cons y r =>
        right
        have ne : y.1 ≠ [] := h2 y (by simp)
        cases e : y.1 with
        | nil => exact (ne e).elim
        | cons d s =>
          refine ⟨d, s ++ (y.2 ++ laid r) ++ t, by rw [laid_cons, e]; simp, (h1 y (by simp)).1 d (by simp [e])⟩
/-- words that are joined with a blank -/
def sepd (sep : List α) : List (List α) → List (List α × List α)
  | [] => []
  | w :: r => ([], w) :: r.map fun v => (sep, v)
theorem joinL_laid (sep : List α) : ∀ ws : List (List α), joinL sep ws = laid (sepd sep ws)
  | [] => rfl
  | [w] => by simp [joinL, sepd, laid]
  | w :: v :: r => by
    have ih := joinL_laid sep (v :: r)
    rw [joinL, ih]
    simp [sepd, laid]
theorem sepd_map (sep : List α) (ws : List (List α)) : (sepd sep ws).map (·.2) = ws := by
  cases ws with
  | nil => rfl
  | cons w r => simp [sepd, Function.comp_def]
/-- each word of a text lies in it, is not empty, and has no blank -/
theorem wq_in (p : α → Bool) : ∀ (l acc : List α) (i : Nat), acc.length ≤ i → (∀ c ∈ acc, p c = false) → ∀ x ∈ wq p i acc l, x.1 + x.2.length ≤ i + l.length ∧ x.2 ≠ [] ∧ ∀ c ∈ x.2, p c = false
  | [], acc, i, hi, ha, x, hx => by
    rw [wq] at hx
    cases acc with
    | nil => simp at hx
    | cons d s =>
      simp only [List.isEmpty_cons, Bool.false_eq_true, if_false, List.mem_singleton] at hx
      subst hx
      exact ⟨by simp only [List.length_nil]; omega, by simp, ha⟩
  | c :: r, acc, i, hi, ha, x, hx => by
    rw [wq] at hx
    by_cases hc : p c = true
    · rw [if_pos hc] at hx
      cases acc with
      | nil =>
        simp only [List.isEmpty_nil, if_true] at hx
        have := wq_in p r [] (i + 1) (by simp) (by simp) x hx
        simp only [List.length_cons]
        exact ⟨by omega, this.2⟩
      | cons d s =>
        simp only [List.isEmpty_cons, Bool.false_eq_true, if_false, List.mem_cons] at hx
        rcases hx with rfl | hx
        · exact ⟨by simp only [List.length_cons] at hi ⊢; omega, by simp, ha⟩
        · have := wq_in p r [] (i + 1) (by simp) (by simp) x hx
          simp only [List.length_cons]
          exact ⟨by omega, this.2⟩
    · rw [if_neg hc] at hx
      have := wq_in p r (acc ++ [c]) (i + 1) (by simp; omega) (by
        intro d hd
        simp only [List.mem_append, List.mem_singleton] at hd
        rcases hd with hd | rfl
        · exact ha d hd
        · simpa using hc) x hx
      simp only [List.length_cons]
      exact ⟨by omega, this.2⟩
/-- one word at the head of the bytes to come -/
theorem wq_step (p : α → Bool) (L : List α) (f : Nat) (hf : f ≤ L.length) (h1 : 1 ≤ f) (hno : ∀ c ∈ L.take f, p c = false) (hend : L.drop f = [] ∨ ∃ c t, L.drop f = c :: t ∧ p c = true) (i : Nat) :
    wq p i [] L = (i, L.take f) :: wq p (i + f) [] (L.drop f) := by
  have hl : (L.take f).length = f := by simp; omega
  have ne : L.take f ≠ [] := fun e => by rw [e] at hl; simp at hl; omega
  have q := wq_word p (L.take f) (L.drop f) hno i []
  rw [List.take_append_drop, hl, List.nil_append] at q
  rw [q, wq_end p _ _ ne hend, hl, Nat.add_sub_cancel]
/-- blanks at the head of the bytes to come -/
theorem wq_trim (p : α → Bool) (L : List α) (i : Nat) : wq p i [] L = wq p (i + (L.length - (L.dropWhile p).length)) [] (L.dropWhile p) := by
  have h := List.takeWhile_append_dropWhile (p := p) (l := L)
  have hl := congrArg List.length h
  rw [List.length_append] at hl
  have q := wq_blanks p (L.takeWhile p) (L.dropWhile p) (fun c hc => by have a := List.all_takeWhile (p := p) (l := L); rw [List.all_eq_true] at a; exact a c hc) i
  rw [h] at q
  rw [q]
  congr 1
  omega
end
end Go.Proofs.YtpnfifhanmpapaaGreatDoor.Lex
/- Words between blanks and tabs. No program stands here. -/
namespace Go.Proofs.YtpnfifhanmpapaaGreatDoor.Exp

/-- a blank -/
def isBl (c : UInt8) : Bool := c == 32 || c == 9
/-- the words of a text, with their places -/
def words (l : List UInt8) : List (Nat × List UInt8) := Lex.wq isBl 0 [] l
end Go.Proofs.YtpnfifhanmpapaaGreatDoor.Exp
