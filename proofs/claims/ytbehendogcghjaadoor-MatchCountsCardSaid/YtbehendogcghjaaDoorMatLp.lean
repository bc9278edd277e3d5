/- Plain facts of the answers of Day, Is, Next and Prev: which times are matched at a zone. -/
import Derived.Test.YtbehendogcghjaaDoorMatK
namespace Go.Proofs.YtbehendogcghjaaDoor
open Go.ChangeShapes Go.RowKit

theorem errC_one {x : Exp.Ex} {z t : Int} (h : errC x z [t] = 0) : x.okB = true ∧ (-840 ≤ z ∧ z ≤ 840) ∧ 0 ≤ t ∧ t ≤ 253402300799 := by
  unfold errC at h
  split at h
  · cases h
  · split at h
    · cases h
    · split at h
      · rename_i h1 h2 h3
        unfold inT at h3
        unfold errZ at h2
        refine ⟨by simpa using h1, ?_, ?_⟩
        · by_cases c : -840 ≤ z ∧ z ≤ 840
          · exact c
          · rw [if_neg c] at h2; simp at h2
        · simpa using h3
      · cases h
theorem errC_two {x : Exp.Ex} {z a b : Int} (h : errC x z [a, b] = 0) : x.okB = true ∧ (-840 ≤ z ∧ z ≤ 840) ∧ (0 ≤ a ∧ a ≤ 253402300799) ∧ 0 ≤ b ∧ b ≤ 253402300799 := by
  unfold errC at h
  split at h
  · cases h
  · split at h
    · cases h
    · split at h
      · rename_i h1 h2 h3
        unfold inT at h3
        unfold errZ at h2
        refine ⟨by simpa using h1, ?_, ?_⟩
        · by_cases c : -840 ≤ z ∧ z ≤ 840
          · exact c
          · rw [if_neg c] at h2; simp at h2
        · simpa using h3
      · cases h
theorem errC_mk {x : Exp.Ex} {z : Int} {ts : List Int} (hok : x.okB = true) (hz : -840 ≤ z ∧ z ≤ 840) (ht : ∀ t ∈ ts, 0 ≤ t ∧ t ≤ 253402300799) : errC x z ts = 0 := by
  unfold errC
  have e : errZ z = 0 := by unfold errZ; rw [if_pos hz]
  have a : ts.all inT = true := by
    rw [List.all_eq_true]
    intro t h
    have := ht t h
    unfold inT
    simp; omega
  rw [if_neg (by rw [hok]; simp), if_neg (by rw [e]; simp), if_pos a]
theorem errC_bd (x : Exp.Ex) (z : Int) (ts : List Int) : errC x z ts = 0 ∨ errC x z ts = 2 ∨ errC x z ts = 14 ∨ errC x z ts = 16 := by
  unfold errC
  split
  · simp
  · split
    · simp
    · split <;> simp
/-- is a local second matched? -/
noncomputable def Exp.Ex.lmB (x : Exp.Ex) (n : Int) : Bool := @decide (x.Lm n) (Classical.propDecidable _)
theorem lmB_iff {x : Exp.Ex} {n : Int} : x.lmB n = true ↔ x.Lm n := by unfold Exp.Ex.lmB; exact @decide_eq_true_iff _ (Classical.propDecidable _)
theorem lmB_no {x : Exp.Ex} {n : Int} : x.lmB n = false ↔ ¬ x.Lm n := by unfold Exp.Ex.lmB; exact @decide_eq_false_iff_not _ (Classical.propDecidable _)
theorem lm_in {x : Exp.Ex} {n : Int} (h : x.Lm n) : 0 ≤ n ∧ n ≤ 253402300799 := Mat.lm_range h
theorem on_in {x : Exp.Ex} {n : Int} (h : x.On n) : 0 ≤ n ∧ n ≤ 2932896 := Mat.on_range h
/-- the first and the last local time of a span -/
def loc0 (z a : Int) : Int := max (a + 60 * z) 0
def loc1 (z b : Int) : Int := min (b + 60 * z) 253402300799
theorem loc_in {z a b : Int} (h : Mat.Dir.up.past (loc0 z a) (loc1 z b) = false) : 0 ≤ loc0 z a ∧ loc0 z a ≤ 253402300799 ∧ 0 ≤ loc1 z b ∧ loc1 z b ≤ 253402300799 := by
  have h := of_decide_eq_false h
  simp only [Mat.Dir.val] at h
  unfold loc0 loc1 at *
  omega
theorem loc_in' {z a b : Int} (h : Mat.Dir.down.past (loc1 z b) (loc0 z a) = false) : 0 ≤ loc1 z b ∧ loc1 z b ≤ 253402300799 ∧ 0 ≤ loc0 z a ∧ loc0 z a ≤ 253402300799 := by
  have h := of_decide_eq_false h
  simp only [Mat.Dir.val] at h
  unfold loc0 loc1 at *
  omega
theorem loc_bd {z a b : Int} (z0 : -840 ≤ z) (z1 : z ≤ 840) (a0 : -1 ≤ a) (a1 : a ≤ 253402300800) (b0 : -1 ≤ b) (b1 : b ≤ 253402300800) : -1000000000000 ≤ loc0 z a ∧ loc0 z a ≤ 1000000000000 ∧ -1000000000000 ≤ loc1 z b ∧ loc1 z b ≤ 1000000000000 := by
  unfold loc0 loc1
  omega
/-- the first matched local time of a span of times, if any -/
theorem seek_span {x : Exp.Ex} (hok : x.Ok) (z a b : Int) : Mat.Least (fun s => x.Lm (s + 60 * z)) a b ((Mat.Dir.up.seek x (loc0 z a) (loc1 z b)).map (· - 60 * z)) := by
  have h := Mat.fst_up.1 (seek_is (d := .up) hok (loc0 z a) (loc1 z b))
  cases e : Mat.Dir.up.seek x (loc0 z a) (loc1 z b) with
  | none =>
    rw [e] at h
    intro y h1 h2 h3
    have := lm_in h3
    exact h (y + 60 * z) (by unfold loc0; omega) (by unfold loc1; omega) h3
  | some u =>
    rw [e] at h
    obtain ⟨h1, h2, h3, h4⟩ := h
    unfold loc0 at h1
    unfold loc1 at h2
    show a ≤ u - 60 * z ∧ u - 60 * z ≤ b ∧ x.Lm (u - 60 * z + 60 * z) ∧ ∀ y, a ≤ y → y < u - 60 * z → ¬ x.Lm (y + 60 * z)
    refine ⟨by omega, by omega, by rw [Int.sub_add_cancel]; exact h3, fun y y1 y2 y3 => ?_⟩
    have := lm_in y3
    exact h4 (y + 60 * z) (by unfold loc0; omega) (by omega) y3
theorem seek_span_back {x : Exp.Ex} (hok : x.Ok) (z a b : Int) : Mat.Most (fun s => x.Lm (s + 60 * z)) a b ((Mat.Dir.down.seek x (loc1 z b) (loc0 z a)).map (· - 60 * z)) := by
  have h := Mat.fst_down.1 (seek_is (d := .down) hok (loc1 z b) (loc0 z a))
  cases e : Mat.Dir.down.seek x (loc1 z b) (loc0 z a) with
  | none =>
    rw [e] at h
    intro y h1 h2 h3
    have := lm_in h3
    exact h (y + 60 * z) (by unfold loc0; omega) (by unfold loc1; omega) h3
  | some u =>
    rw [e] at h
    obtain ⟨h1, h2, h3, h4⟩ := h
    unfold loc0 at h1
    unfold loc1 at h2
    show a ≤ u - 60 * z ∧ u - 60 * z ≤ b ∧ x.Lm (u - 60 * z + 60 * z) ∧ ∀ y, u - 60 * z < y → y ≤ b → ¬ x.Lm (y + 60 * z)
    refine ⟨by omega, by omega, by rw [Int.sub_add_cancel]; exact h3, fun y y1 y2 y3 => ?_⟩
    have := lm_in y3
    exact h4 (y + 60 * z) (by omega) (by unfold loc1; omega) y3
/-- one time alone -/
theorem seek_one {x : Exp.Ex} (hok : x.Ok) (z t : Int) : (Mat.Dir.up.seek x (loc0 z t) (loc1 z t)).isSome = x.lmB (t + 60 * z) := by
  have h := seek_span hok z t t
  cases e : Mat.Dir.up.seek x (loc0 z t) (loc1 z t) with
  | none =>
    rw [e] at h
    exact (lmB_no.2 (h t (Int.le_refl _) (Int.le_refl _))).symm
  | some u =>
    rw [e] at h
    have h : t ≤ u - 60 * z ∧ u - 60 * z ≤ t ∧ x.Lm (u - 60 * z + 60 * z) ∧ ∀ y, t ≤ y → y < u - 60 * z → ¬ x.Lm (y + 60 * z) := h
    obtain ⟨h1, h2, h3, _⟩ := h
    refine (lmB_iff.2 ?_).symm
    have e : u - 60 * z = t := by omega
    rw [e] at h3
    exact h3
/-- the answers of Next and Prev -/
noncomputable def nextO (x : Exp.Ex) (z t : Int) : Option Int := if errC x z [t] = 0 then (Mat.Dir.up.seek x (loc0 z (t + 1)) (loc1 z 253402300799)).map (· - 60 * z) else none
noncomputable def prevO (x : Exp.Ex) (z t : Int) : Option Int := if errC x z [t] = 0 then (Mat.Dir.down.seek x (loc1 z (t - 1)) (loc0 z 0)).map (· - 60 * z) else none
theorem ok_of {x : Exp.Ex} {z : Int} {ts : List Int} (h : errC x z ts = 0) : x.Ok := by
  refine Exp.okB_iff.1 ?_
  unfold errC at h
  split at h
  · cases h
  · rename_i c; simpa using c
theorem nextO_is {x : Exp.Ex} {z t : Int} (h : errC x z [t] = 0) : Mat.Least (fun s => x.Lm (s + 60 * z)) (t + 1) 253402300799 (nextO x z t) := by
  unfold nextO
  rw [if_pos h]
  exact seek_span (ok_of h) z (t + 1) 253402300799
theorem prevO_is {x : Exp.Ex} {z t : Int} (h : errC x z [t] = 0) : Mat.Most (fun s => x.Lm (s + 60 * z)) 0 (t - 1) (prevO x z t) := by
  unfold prevO
  rw [if_pos h]
  exact seek_span_back (ok_of h) z 0 (t - 1)
end Go.Proofs.YtbehendogcghjaaDoor
