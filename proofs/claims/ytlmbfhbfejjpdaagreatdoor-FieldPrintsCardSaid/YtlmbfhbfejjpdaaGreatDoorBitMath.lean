/- Plain mathematics of sets of the numbers from 0 to 63: members, lists, ranges, runs. No program stands here. -/
namespace Go.Proofs.YtlmbfhbfejjpdaaGreatDoor.Bit
theorem ext64 {S T : Nat} (hS : S < 2 ^ 64) (hT : T < 2 ^ 64) (h : ∀ v, v < 64 → S.testBit v = T.testBit v) : S = T := by
  apply Nat.eq_of_testBit_eq
  intro v
  by_cases c : v < 64
  · exact h v c
  · rw [Nat.testBit_lt_two_pow (Nat.lt_of_lt_of_le hS (Nat.pow_le_pow_right (by decide) (by omega))), Nat.testBit_lt_two_pow (Nat.lt_of_lt_of_le hT (Nat.pow_le_pow_right (by decide) (by omega)))]
theorem bit_one (v w : Nat) : (2 ^ v).testBit w = decide (v = w) := by
  rw [Nat.testBit_two_pow]
theorem or_lt {S T : Nat} (hS : S < 2 ^ 64) (hT : T < 2 ^ 64) : S ||| T < 2 ^ 64 := Nat.or_lt_two_pow hS hT
theorem one_lt {v : Nat} (h : v < 64) : 2 ^ v < 2 ^ 64 := Nat.pow_lt_pow_right (by decide) h
/-- the numbers of a set from v on, below 64 -/
def memFrom (S : Nat) (v n : Nat) : List Nat := (List.range' v n).filter (S.testBit ·)
/-- the numbers of a set -/
def mem (S : Nat) : List Nat := memFrom S 0 64
theorem mem_iff {S v : Nat} : v ∈ mem S ↔ v < 64 ∧ S.testBit v = true := by
  unfold mem memFrom
  simp [List.mem_filter, List.mem_range']
theorem memFrom_succ (S v n : Nat) : memFrom S v (n + 1) = if S.testBit v then v :: memFrom S (v + 1) n else memFrom S (v + 1) n := by
  unfold memFrom
  rw [List.range'_succ, List.filter_cons]
theorem memFrom_zero (S v : Nat) : memFrom S v 0 = [] := rfl
/-- the numbers below k -/
def memTo (S k : Nat) : List Nat := (List.range' 0 k).filter (S.testBit ·)
theorem memTo_succ (S k : Nat) : memTo S (k + 1) = if S.testBit k then memTo S k ++ [k] else memTo S k := by
  unfold memTo
  rw [List.range'_concat, List.filter_append]
  simp only [Nat.zero_add, Nat.one_mul]
  by_cases c : S.testBit k = true
  · simp [c]
  · simp [c]
theorem memTo_zero (S : Nat) : memTo S 0 = [] := rfl
theorem memTo_all (S : Nat) : memTo S 64 = mem S := rfl
theorem memTo_len (S k : Nat) : (memTo S k).length ≤ k := by
  unfold memTo
  exact Nat.le_trans (List.length_filter_le _ _) (by simp)
theorem mem_len (S : Nat) : (mem S).length ≤ 64 := memTo_len S 64
theorem mem_sorted (S : Nat) : (mem S).Pairwise (· < ·) := List.Pairwise.filter _ List.pairwise_lt_range'
theorem mem_lt {S v : Nat} (h : v ∈ mem S) : v < 64 := (mem_iff.1 h).1
/-- two increasing lists with the same members are the same -/
theorem sorted_ext : ∀ {l m : List Nat}, l.Pairwise (· < ·) → m.Pairwise (· < ·) → (∀ v, v ∈ l ↔ v ∈ m) → l = m
  | [], [], _, _, _ => rfl
  | [], b :: m, _, _, h => by simpa using (h b).2 (by simp)
  | a :: l, [], _, _, h => by simpa using (h a).1 (by simp)
  | a :: l, b :: m, hl, hm, h => by
    rw [List.pairwise_cons] at hl hm
    have e : a = b := by
      have h1 := (h a).1 (by simp)
      have h2 := (h b).2 (by simp)
      rw [List.mem_cons] at h1 h2
      rcases h1 with h1 | h1
      · exact h1
      · rcases h2 with h2 | h2
        · exact h2.symm
        · have := hm.1 a h1; have := hl.1 b h2; omega
    subst e
    congr 1
    refine sorted_ext hl.2 hm.2 fun v => ?_
    have := h v
    rw [List.mem_cons, List.mem_cons] at this
    constructor
    · intro k
      rcases this.1 (.inr k) with rfl | k'
      · exact absurd (hl.1 v k) (by omega)
      · exact k'
    · intro k
      rcases this.2 (.inr k) with rfl | k'
      · exact absurd (hm.1 v k) (by omega)
      · exact k'

/-- how many of the numbers that follow keep the distance -/
def keep (step prev : Nat) : List Nat → Nat
  | [] => 0
  | x :: r => if x - prev = step then keep step x r + 1 else 0
theorem keep_le (step prev : Nat) (l : List Nat) : keep step prev l ≤ l.length := by
  induction l generalizing prev with
  | nil => simp [keep]
  | cons x r ih => unfold keep; split <;> simp; exact ih x
/-- the first run of an increasing list: how many numbers it has -/
def take1 : List Nat → Nat
  | [] => 0
  | [_] => 1
  | a :: b :: r => if keep (b - a) b r = 0 ∧ 1 < b - a then 1 else keep (b - a) b r + 2
def step1 : List Nat → Nat
  | a :: b :: r => if keep (b - a) b r = 0 ∧ 1 < b - a then 1 else b - a
  | _ => 1
theorem take1_two (a b : Nat) (r : List Nat) : take1 (a :: b :: r) = if keep (b - a) b r = 0 ∧ 1 < b - a then 1 else keep (b - a) b r + 2 := rfl
theorem step1_two (a b : Nat) (r : List Nat) : step1 (a :: b :: r) = if keep (b - a) b r = 0 ∧ 1 < b - a then 1 else b - a := rfl
theorem take1_bd {a : Nat} {l : List Nat} : 1 ≤ take1 (a :: l) ∧ take1 (a :: l) ≤ (a :: l).length := by
  cases l with
  | nil => simp [take1]
  | cons b r =>
    have := keep_le (b - a) b r
    rw [take1_two]
    simp only [List.length_cons]
    split <;> omega
/-- the runs of an increasing list: first number, last number, step -/
def runs (l : List Nat) : List (Nat × Nat × Nat) :=
  match l with
  | [] => []
  | a :: l => (a, (a :: l).getD (take1 (a :: l) - 1) 0, step1 (a :: l)) :: runs ((a :: l).drop (take1 (a :: l)))
termination_by l.length
decreasing_by
  have := take1_bd (a := a) (l := l)
  simp at this ⊢
  omega
theorem runs_nil : runs [] = [] := by rw [runs]
theorem runs_cons (a : Nat) (l : List Nat) : runs (a :: l) = (a, (a :: l).getD (take1 (a :: l) - 1) 0, step1 (a :: l)) :: runs ((a :: l).drop (take1 (a :: l))) := by rw [runs]
theorem runs_len (l : List Nat) : (runs l).length ≤ l.length := by
  match l with
  | [] => simp [runs_nil]
  | a :: l =>
    have b := take1_bd (a := a) (l := l)
    have := runs_len ((a :: l).drop (take1 (a :: l)))
    rw [runs_cons]
    simp at b this ⊢
    omega
termination_by l.length
decreasing_by
  simp at b ⊢
  omega

/-- the numbers lo, lo + step, .. , n of them -/
def nums (lo step n : Nat) : List Nat := (List.range n).map fun k => lo + k * step
theorem keep_nums (step prev : Nat) (l : List Nat) (h : 1 ≤ step) : l.take (keep step prev l) = nums (prev + step) step (keep step prev l) := by
  induction l generalizing prev with
  | nil => simp [keep, nums]
  | cons x r ih =>
    unfold keep
    by_cases c : x - prev = step
    · rw [if_pos c, List.take_succ_cons, ih x]
      unfold nums
      rw [List.range_succ_eq_map, List.map_cons, List.map_map]
      have e : prev + step = x := by omega
      rw [e]
      simp only [Nat.zero_mul, Nat.add_zero, List.cons.injEq, true_and]
      apply List.map_congr_left
      intro k _
      simp only [Function.comp]
      rw [Nat.succ_mul]
      omega
    · rw [if_neg c]
      simp [nums]
/-- the first run's numbers are the beginning of the list -/
theorem take1_nums (a : Nat) (l : List Nat) (h : (a :: l).Pairwise (· < ·)) : (a :: l).take (take1 (a :: l)) = nums a (step1 (a :: l)) (take1 (a :: l)) := by
  cases l with
  | nil => simp [take1, step1, nums]
  | cons b r =>
    have ab : a < b := by rw [List.pairwise_cons] at h; exact h.1 b (by simp)
    rw [take1_two, step1_two]
    by_cases c : keep (b - a) b r = 0 ∧ 1 < b - a
    · simp [c, nums]
    · rw [if_neg c, if_neg c, List.take_succ_cons, List.take_succ_cons, keep_nums _ _ _ (by omega)]
      unfold nums
      rw [List.range_succ_eq_map, List.range_succ_eq_map]
      simp only [List.map_cons, List.map_map, Nat.zero_mul, Nat.add_zero, Nat.succ_mul, Nat.zero_add, List.cons.injEq, true_and]
      refine ⟨by omega, ?_⟩
      apply List.map_congr_left
      intro k _
      simp only [Function.comp, Nat.succ_mul]
      omega
theorem nums_len (lo step n : Nat) : (nums lo step n).length = n := by simp [nums]
theorem nums_getD (lo step n k : Nat) (h : k < n) : (nums lo step n).getD k 0 = lo + k * step := by simp [nums, List.getD, h]
/-- the last number of the first run -/
theorem last1 (a : Nat) (l : List Nat) (h : (a :: l).Pairwise (· < ·)) : (a :: l).getD (take1 (a :: l) - 1) 0 = a + (take1 (a :: l) - 1) * step1 (a :: l) := by
  have b := take1_bd (a := a) (l := l)
  have e := take1_nums a l h
  have g : ((a :: l).take (take1 (a :: l))).getD (take1 (a :: l) - 1) 0 = (nums a (step1 (a :: l)) (take1 (a :: l))).getD (take1 (a :: l) - 1) 0 := by rw [e]
  rw [nums_getD _ _ _ _ (by omega)] at g
  rw [← g]
  simp only [List.getD_eq_getElem?_getD, List.getElem?_take]
  rw [if_pos (by omega)]
theorem step1_pos (a : Nat) (l : List Nat) (h : (a :: l).Pairwise (· < ·)) : 1 ≤ step1 (a :: l) := by
  cases l with
  | nil => simp [step1]
  | cons b r =>
    have ab : a < b := by rw [List.pairwise_cons] at h; exact h.1 b (by simp)
    rw [step1_two]; split <;> omega
theorem one_step (a : Nat) (l : List Nat) (h : take1 (a :: l) = 1) : step1 (a :: l) = 1 := by
  cases l with
  | nil => rfl
  | cons b r =>
    rw [take1_two] at h
    rw [step1_two]
    split at h
    · rename_i c; rw [if_pos c]
    · omega
theorem two_step (a : Nat) (l : List Nat) (h : take1 (a :: l) = 2) : step1 (a :: l) ≤ 1 := by
  cases l with
  | nil => simp [step1]
  | cons b r =>
    rw [take1_two] at h
    rw [step1_two]
    split at h
    · omega
    · rename_i c; rw [if_neg c]; omega
/-- a triple as the chapter asks it of a run -/
def Run (r : Nat × Nat × Nat) : Prop := r.1 ≤ r.2.1 ∧ 1 ≤ r.2.2 ∧ (r.2.1 - r.1) % r.2.2 = 0 ∧ (r.1 = r.2.1 → r.2.2 = 1) ∧ ¬ (r.2.1 - r.1 = r.2.2 ∧ 1 < r.2.2)
/-- the numbers of a run -/
def numsR (r : Nat × Nat × Nat) : List Nat := nums r.1 r.2.2 ((r.2.1 - r.1) / r.2.2 + 1)
theorem run_of (a n q : Nat) (s : 1 ≤ q) (o : n + 1 = 1 → q = 1) (w : n + 1 = 2 → q ≤ 1) : Run (a, a + n * q, q) ∧ numsR (a, a + n * q, q) = nums a q (n + 1) := by
  have d : a + n * q - a = n * q := by omega
  refine ⟨⟨Nat.le_add_right a _, s, ?_, fun k => ?_, fun k => ?_⟩, ?_⟩
  · show (a + n * q - a) % q = 0
    rw [d]; exact Nat.mul_mod_left n q
  · have k : a = a + n * q := k
    have k0 : n * q = 0 := by omega
    rcases Nat.mul_eq_zero.1 k0 with z | z
    · exact o (by omega)
    · omega
  · obtain ⟨k1, k2⟩ := k
    have k1 : a + n * q - a = q := k1
    have k2 : 1 < q := k2
    have : n = 1 := by
      have : n * q = 1 * q := by omega
      exact Nat.eq_of_mul_eq_mul_right (by omega) this
    have := w (by omega)
    omega
  · show nums a q ((a + n * q - a) / q + 1) = _
    rw [d, Nat.mul_div_cancel _ (by omega)]
theorem first_run (a : Nat) (l : List Nat) (h : (a :: l).Pairwise (· < ·)) :
    Run (a, (a :: l).getD (take1 (a :: l) - 1) 0, step1 (a :: l)) ∧ numsR (a, (a :: l).getD (take1 (a :: l) - 1) 0, step1 (a :: l)) = (a :: l).take (take1 (a :: l)) := by
  have b := take1_bd (a := a) (l := l)
  have n1 : take1 (a :: l) - 1 + 1 = take1 (a :: l) := by omega
  have k := run_of a (take1 (a :: l) - 1) (step1 (a :: l)) (step1_pos a l h) (fun c => one_step a l (by omega)) (fun c => two_step a l (by omega))
  rw [n1] at k
  rw [last1 a l h, take1_nums a l h]
  exact k
theorem runs_all (l : List Nat) (h : l.Pairwise (· < ·)) : (∀ r ∈ runs l, Run r) ∧ (runs l).flatMap numsR = l := by
  match l with
  | [] => simp [runs_nil]
  | a :: l =>
    have b := take1_bd (a := a) (l := l)
    have f := first_run a l h
    have ih := runs_all ((a :: l).drop (take1 (a :: l))) (h.sublist (List.drop_sublist _ _))
    rw [runs_cons]
    refine ⟨fun r hr => ?_, ?_⟩
    · rw [List.mem_cons] at hr
      rcases hr with rfl | hr
      · exact f.1
      · exact ih.1 r hr
    · rw [List.flatMap_cons, f.2, ih.2, List.take_append_drop]
termination_by l.length
decreasing_by
  simp at b ⊢
  omega

/-! sets out of lists, ranges -/
def ofL (S : Nat) (l : List Nat) : Nat := l.foldl (fun s v => s ||| 2 ^ v) S
theorem ofL_bit (l : List Nat) (S v : Nat) : (ofL S l).testBit v = (S.testBit v || decide (v ∈ l)) := by
  induction l generalizing S with
  | nil => simp [ofL]
  | cons a l ih =>
    show (ofL (S ||| 2 ^ a) l).testBit v = _
    rw [ih, Nat.testBit_or, bit_one]
    by_cases c : a = v
    · subst c; simp
    · have : ¬ v = a := fun h => c h.symm
      simp [c, this]
theorem ofL_lt (l : List Nat) (S : Nat) (hS : S < 2 ^ 64) (h : ∀ v ∈ l, v < 64) : ofL S l < 2 ^ 64 := by
  induction l generalizing S with
  | nil => exact hS
  | cons a l ih =>
    show ofL (S ||| 2 ^ a) l < 2 ^ 64
    exact ih _ (or_lt hS (one_lt (h a (by simp)))) (fun v hv => h v (by simp [hv]))
theorem ofL_mem (S : Nat) (hS : S < 2 ^ 64) : ofL 0 (mem S) = S := by
  apply ext64 (ofL_lt _ _ (by decide) (fun v hv => mem_lt hv)) hS
  intro v hv
  rw [ofL_bit, Nat.zero_testBit, Bool.false_or]
  by_cases c : S.testBit v = true
  · rw [c]; simpa using mem_iff.2 ⟨hv, c⟩
  · have : v ∉ mem S := fun h => c (mem_iff.1 h).2
    simp [this]
    simpa using c
theorem mem_ofL {l : List Nat} (h : l.Pairwise (· < ·)) (hl : ∀ v ∈ l, v < 64) : mem (ofL 0 l) = l := by
  refine sorted_ext (mem_sorted _) h fun v => ?_
  rw [mem_iff, ofL_bit, Nat.zero_testBit, Bool.false_or]
  constructor
  · intro k; simpa using k.2
  · intro k; exact ⟨hl v k, by simpa using k⟩
/-- the set of a range -/
def rangeS (lo hi step : Nat) : Nat := ofL 0 (nums lo step ((hi - lo) / step + 1))
theorem nums_mem {lo step n v : Nat} : v ∈ nums lo step n ↔ ∃ k, k < n ∧ v = lo + k * step := by
  unfold nums
  simp only [List.mem_map, List.mem_range]
  constructor
  · rintro ⟨k, a, b⟩; exact ⟨k, a, b.symm⟩
  · rintro ⟨k, a, b⟩; exact ⟨k, a, b.symm⟩
theorem nums_range {lo hi step v : Nat} (h : lo ≤ hi) (s : 1 ≤ step) : v ∈ nums lo step ((hi - lo) / step + 1) ↔ lo ≤ v ∧ v ≤ hi ∧ (v - lo) % step = 0 := by
  rw [nums_mem]
  constructor
  · rintro ⟨k, a, rfl⟩
    have k1 : k ≤ (hi - lo) / step := by omega
    have := (Nat.le_div_iff_mul_le (by omega)).1 k1
    refine ⟨by omega, by omega, ?_⟩
    rw [Nat.add_sub_cancel_left]; exact Nat.mul_mod_left k step
  · rintro ⟨a, b, c⟩
    refine ⟨(v - lo) / step, ?_, ?_⟩
    · have := Nat.div_le_div_right (c := step) (show v - lo ≤ hi - lo by omega)
      omega
    · have := Nat.div_add_mod (v - lo) step
      rw [Nat.mul_comm] at this
      omega
theorem nums_sorted (lo step n : Nat) (s : 1 ≤ step) : (nums lo step n).Pairwise (· < ·) := by
  rw [List.pairwise_iff_getElem]
  intro i j hi hj hij
  simp only [nums, List.getElem_map, List.getElem_range]
  have := Nat.mul_lt_mul_of_pos_right hij (show 0 < step by omega)
  omega
theorem rangeS_bit {lo hi step v : Nat} (h : lo ≤ hi) (s : 1 ≤ step) : (rangeS lo hi step).testBit v = decide (lo ≤ v ∧ v ≤ hi ∧ (v - lo) % step = 0) := by
  unfold rangeS
  rw [ofL_bit, Nat.zero_testBit, Bool.false_or]
  by_cases c : v ∈ nums lo step ((hi - lo) / step + 1)
  · simp only [c, decide_true]; exact (decide_eq_true ((nums_range h s).1 c)).symm
  · simp only [c, decide_false]; exact (decide_eq_false (fun k => c ((nums_range h s).2 k))).symm
theorem rangeS_lt {lo hi step : Nat} (h : lo ≤ hi) (s : 1 ≤ step) (hh : hi < 64) : rangeS lo hi step < 2 ^ 64 :=
  ofL_lt _ _ (by decide) (fun v hv => by have := (nums_range h s).1 hv; omega)
theorem rangeS_mem {lo hi step : Nat} (h : lo ≤ hi) (s : 1 ≤ step) (hh : hi < 64) : mem (rangeS lo hi step) = nums lo step ((hi - lo) / step + 1) :=
  mem_ofL (nums_sorted _ _ _ s) (fun v hv => by have := (nums_range h s).1 hv; omega)

/-! the runs of a range -/
theorem nums_succ (lo step n : Nat) : nums lo step (n + 1) = lo :: nums (lo + step) step n := by
  unfold nums
  rw [List.range_succ_eq_map]
  simp only [List.map_cons, List.map_map, Nat.zero_mul, Nat.add_zero, List.cons.injEq, true_and]
  apply List.map_congr_left
  intro k _
  simp only [Function.comp, Nat.succ_mul]
  omega
theorem keep_self (step prev n : Nat) : keep step prev (nums (prev + step) step n) = n := by
  induction n generalizing prev with
  | zero => simp [nums, keep]
  | succ n ih =>
    rw [nums_succ]
    unfold keep
    rw [if_pos (by omega), ih]
theorem runs_one (lo step : Nat) : runs (nums lo step 1) = [(lo, lo, 1)] := by
  rw [nums_succ, show nums (lo + step) step 0 = [] from rfl, runs_cons]
  simp [take1, step1, runs_nil]
theorem runs_many (lo step n : Nat) (s : 1 ≤ step) (h : step = 1 ∨ 1 ≤ n) : runs (nums lo step (n + 2)) = [(lo, lo + (n + 1) * step, step)] := by
  have e : take1 (nums lo step (n + 2)) = n + 2 ∧ step1 (nums lo step (n + 2)) = step := by
    rw [nums_succ, nums_succ, take1_two, step1_two, Nat.add_sub_cancel_left, keep_self]
    rw [if_neg (by omega), if_neg (by omega)]
    exact ⟨rfl, rfl⟩
  have l := last1 lo (nums (lo + step) step (n + 1)) (by rw [← nums_succ]; exact nums_sorted _ _ _ s)
  rw [← nums_succ, e.1, e.2] at l
  rw [nums_succ, runs_cons, ← nums_succ, e.1, e.2, l, List.drop_of_length_le (by rw [nums_len]; exact Nat.le_refl _), runs_nil]
  rfl
theorem runs_two (lo step : Nat) (s : 1 < step) : runs (nums lo step 2) = [(lo, lo, 1), (lo + step, lo + step, 1)] := by
  have e : take1 (nums lo step 2) = 1 ∧ step1 (nums lo step 2) = 1 := by
    rw [nums_succ, nums_succ, take1_two, step1_two, Nat.add_sub_cancel_left, keep_self]
    rw [if_pos (by omega), if_pos (by omega)]
    exact ⟨rfl, rfl⟩
  rw [nums_succ, runs_cons, ← nums_succ, e.1, e.2]
  have d : (nums lo step 2).drop 1 = nums (lo + step) step 1 := by rw [nums_succ]; rfl
  rw [d, runs_one]
  rw [nums_getD _ _ _ _ (by decide)]
  simp
end Go.Proofs.YtlmbfhbfejjpdaaGreatDoor.Bit
