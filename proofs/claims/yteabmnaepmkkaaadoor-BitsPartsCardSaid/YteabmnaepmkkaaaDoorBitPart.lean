/- Plain facts of the runs of a set, for the statement BitsParts: the set of the first k runs, and what the next run is to it. -/
import Derived.Test.YteabmnaepmkkaaaDoorBitU
namespace Go.Proofs.YteabmnaepmkkaaaDoor
open Go.ChangeShapes Go.RowKit

/-- the set of the first k runs -/
def allOf (rs : List (Nat × Nat × Nat)) (k : Nat) : Nat := Bit.ofL 0 ((rs.take k).flatMap Bit.numsR)
structure Part (rs : List (Nat × Nat × Nat)) (k a b c : Nat) : Prop where
  le : a ≤ b
  lt : b < 64
  one : 1 ≤ c
  mod : (b - a) % c = 0
  same : a = b → c = 1
  two : b - a = c → ¬ 1 < c
  apart : Bit.rangeS a b c &&& allOf rs k = 0
  next : allOf rs (k + 1) = allOf rs k ||| Bit.rangeS a b c
  all : allOf rs k < 2 ^ 64
  before : ∀ j r, j < k → rs[j]? = some r → r.1 < a
theorem part_of {S k a b c : Nat} (h : (Bit.runs (Bit.mem S))[k]? = some (a, b, c)) : Part (Bit.runs (Bit.mem S)) k a b c := by
  have ra := Bit.runs_all (Bit.mem S) (Bit.mem_sorted S)
  obtain ⟨rs, hrs⟩ : ∃ rs, Bit.runs (Bit.mem S) = rs := ⟨_, rfl⟩
  rw [hrs] at h ra ⊢
  obtain ⟨hk, hkr⟩ := List.getElem?_eq_some_iff.1 h
  have run := ra.1 (a, b, c) (by rw [← hkr]; exact List.getElem_mem hk)
  obtain ⟨r1, r2, r3, r4, r5⟩ := run
  have r1 : a ≤ b := r1
  have r2 : 1 ≤ c := r2
  have r3 : (b - a) % c = 0 := r3
  have r4 : a = b → c = 1 := r4
  have r5 : ¬ (b - a = c ∧ 1 < c) := r5
  have tk : rs.take (k + 1) = rs.take k ++ [(a, b, c)] := by rw [List.take_succ_eq_append_getElem hk, hkr]
  have sp : Bit.mem S = (rs.take k).flatMap Bit.numsR ++ (Bit.numsR (a, b, c) ++ (rs.drop (k + 1)).flatMap Bit.numsR) := by
    have e : rs = rs.take k ++ ([(a, b, c)] ++ rs.drop (k + 1)) := by
      rw [← List.append_assoc, ← tk, List.take_append_drop]
    have f := congrArg (fun l => l.flatMap Bit.numsR) e
    simp only [List.flatMap_append] at f
    rw [ra.2] at f
    rw [f]
    simp
  have so := Bit.mem_sorted S
  have ml : ∀ x ∈ Bit.mem S, x < 64 := fun x hx => Bit.mem_lt hx
  rw [sp] at so ml
  rw [List.pairwise_append] at so
  have sep := so.2.2
  have inR : ∀ x, a ≤ x → x ≤ b → (x - a) % c = 0 → x ∈ Bit.numsR (a, b, c) := fun x h1 h2 h3 => (Bit.nums_range r1 r2).2 ⟨h1, h2, h3⟩
  have b64 : b < 64 := ml b (List.mem_append.2 (.inr (List.mem_append.2 (.inl (inR b r1 (Nat.le_refl _) r3)))))
  have al : allOf rs k < 2 ^ 64 := Bit.ofL_lt _ _ (by decide) (fun v hv => ml v (List.mem_append.2 (.inl hv)))
  refine ⟨r1, b64, r2, r3, r4, fun e o => r5 ⟨e, o⟩, ?_, ?_, al, ?_⟩
  · apply Bit.ext64 (Nat.lt_of_le_of_lt Nat.and_le_right al) (by decide)
    intro v hv
    rw [Nat.testBit_and, Nat.zero_testBit, Bool.and_eq_false_iff]
    by_cases q : v ∈ (rs.take k).flatMap Bit.numsR
    · left
      rw [Bit.rangeS_bit r1 r2, decide_eq_false_iff_not]
      rintro ⟨q1, q2, q3⟩
      have := sep v q v (List.mem_append.2 (.inl (inR v q1 q2 q3)))
      omega
    · right
      unfold allOf
      rw [Bit.ofL_bit, Nat.zero_testBit, Bool.false_or, decide_eq_false_iff_not]
      exact q
  · apply Bit.ext64 (Bit.ofL_lt _ _ (by decide) (fun v hv => ?_)) (Bit.or_lt al (Bit.rangeS_lt r1 r2 b64))
    · intro v hv
      unfold allOf Bit.rangeS
      have e1 : List.flatMap Bit.numsR [(a, b, c)] = Bit.nums a c ((b - a) / c + 1) := by simp [Bit.numsR]
      rw [Nat.testBit_or, Bit.ofL_bit, Bit.ofL_bit, Bit.ofL_bit, tk, List.flatMap_append, Nat.zero_testBit, e1]
      by_cases x1 : v ∈ (rs.take k).flatMap Bit.numsR
      · simp only [List.mem_append, x1, true_or, decide_true, Bool.false_or, Bool.true_or]
      · by_cases x2 : v ∈ Bit.nums a c ((b - a) / c + 1)
        · simp only [List.mem_append, x1, x2, or_true, decide_true, decide_false, Bool.false_or]
        · simp only [List.mem_append, x1, x2, or_false, decide_false, Bool.false_or]
    · rw [tk, List.flatMap_append, List.mem_append] at hv
      refine ml v (List.mem_append.2 ?_)
      rcases hv with hv | hv
      · exact .inl hv
      · exact .inr (List.mem_append.2 (.inl (by simpa using hv)))
  · intro j r hj hr
    obtain ⟨hjl, hjr⟩ := List.getElem?_eq_some_iff.1 hr
    have rr := ra.1 r (by rw [← hjr]; exact List.getElem_mem hjl)
    have m1 : r.1 ∈ Bit.numsR r := (Bit.nums_range rr.1 rr.2.1).2 ⟨Nat.le_refl _, rr.1, by simp⟩
    have m2 : r ∈ rs.take k := by
      rw [← hjr]
      exact List.mem_take_iff_getElem.2 ⟨j, by omega, rfl⟩
    exact sep r.1 (List.mem_flatMap.2 ⟨r, m2, m1⟩) a (List.mem_append.2 (.inl (inR a (Nat.le_refl _) r1 (by simp))))
theorem all_end {S : Nat} (hS : S < 2 ^ 64) : allOf (Bit.runs (Bit.mem S)) (Bit.runs (Bit.mem S)).length = S := by
  unfold allOf
  rw [List.take_length, (Bit.runs_all (Bit.mem S) (Bit.mem_sorted S)).2, Bit.ofL_mem S hS]
end Go.Proofs.YteabmnaepmkkaaaDoor
