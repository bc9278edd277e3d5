/- Plain facts of the days that an expression matches, in a direction: which there are, one behind the other. -/
import Derived.Test.YtbehendogcghjaaDoorMatE
namespace Go.Proofs.YtbehendogcghjaaDoor
open Go.ChangeShapes Go.RowKit

/-- a day of the calendar -/
abbrev Dy := { n : Int // 0 ≤ n ∧ n ≤ 2932896 }
/-- does an expression match a day? -/
noncomputable def Exp.Ex.onB (x : Exp.Ex) (n : Int) : Bool := @decide (x.On n) (Classical.propDecidable _)
theorem onB_iff {x : Exp.Ex} {n : Int} : x.onB n = true ↔ x.On n := by unfold Exp.Ex.onB; exact @decide_eq_true_iff _ (Classical.propDecidable _)
theorem onB_no {x : Exp.Ex} {n : Int} : x.onB n = false ↔ ¬ x.On n := by unfold Exp.Ex.onB; exact @decide_eq_false_iff_not _ (Classical.propDecidable _)
/-- of so many days, from one on, those that match -/
noncomputable def Mat.Dir.daysTo (d : Mat.Dir) (x : Exp.Ex) (a : Int) (k : Nat) : List Int := ((List.range k).map fun i => a + d.val * ((i : Nat) : Int)).filter x.onB
theorem daysTo_zero (d : Mat.Dir) (x : Exp.Ex) (a : Int) : d.daysTo x a 0 = [] := rfl
theorem daysTo_yes {d : Mat.Dir} {x : Exp.Ex} {a : Int} {k : Nat} (h : x.onB (a + d.val * (k : Int)) = true) : d.daysTo x a (k + 1) = d.daysTo x a k ++ [a + d.val * (k : Int)] := by
  unfold Mat.Dir.daysTo
  rw [List.range_succ, List.map_append, List.filter_append]
  simp [h]
theorem daysTo_no {d : Mat.Dir} {x : Exp.Ex} {a : Int} {k : Nat} (h : x.onB (a + d.val * (k : Int)) = false) : d.daysTo x a (k + 1) = d.daysTo x a k := by
  unfold Mat.Dir.daysTo
  rw [List.range_succ, List.map_append, List.filter_append]
  simp [h]
theorem daysTo_pre (d : Mat.Dir) (x : Exp.Ex) (a : Int) (k : Nat) : ∀ j : Nat, d.daysTo x a k <+: d.daysTo x a (k + j)
  | 0 => List.prefix_refl _
  | j + 1 => by
    refine (daysTo_pre d x a k j).trans ?_
    rw [show k + (j + 1) = (k + j) + 1 by omega]
    cases h : x.onB (a + d.val * ((k + j : Nat) : Int)) with
    | true => rw [daysTo_yes h]; exact List.prefix_append _ _
    | false => rw [daysTo_no h]; exact List.prefix_refl _
theorem daysTo_len (d : Mat.Dir) (x : Exp.Ex) (a : Int) (k : Nat) : (d.daysTo x a k).length ≤ k := by
  unfold Mat.Dir.daysTo
  exact Nat.le_trans (List.length_filter_le _ _) (by simp)
theorem daysTo_mem {d : Mat.Dir} {x : Exp.Ex} {a n : Int} {k : Nat} : n ∈ d.daysTo x a k ↔ x.On n ∧ ∃ i : Nat, i < k ∧ n = a + d.val * (i : Int) := by
  unfold Mat.Dir.daysTo
  rw [List.mem_filter, List.mem_map, onB_iff]
  constructor
  · rintro ⟨⟨i, hi, rfl⟩, h⟩
    exact ⟨h, i, List.mem_range.1 hi, rfl⟩
  · rintro ⟨h, i, hi, rfl⟩
    exact ⟨⟨i, List.mem_range.2 hi, rfl⟩, h⟩
theorem daysTo_sorted (d : Mat.Dir) (x : Exp.Ex) (a : Int) (k : Nat) : (d.daysTo x a k).Pairwise (fun p q : Int => d.val * p < d.val * q) := by
  unfold Mat.Dir.daysTo
  refine List.Pairwise.filter _ ?_
  rw [List.pairwise_map]
  exact List.Pairwise.imp (fun {p q} h => by cases d <;> simp only [Mat.Dir.val] <;> omega) List.pairwise_lt_range
/-- how many days there are, from that of one second to that of another one -/
def Mat.Dir.cnt (d : Mat.Dir) (f t : Int) : Nat := (d.val * (t / 86400 - f / 86400)).toNat + 1
/-- the days that match, from that of one second to that of another one -/
noncomputable def Mat.Dir.daysL (d : Mat.Dir) (x : Exp.Ex) (f t : Int) : List Int := if d.past f t = true then [] else d.daysTo x (f / 86400) (d.cnt f t)
theorem daysL_never {x : Exp.Ex} (h : ¬ x.Evr) (d : Mat.Dir) (f t : Int) : d.daysL x f t = [] := by
  unfold Mat.Dir.daysL
  split
  · rfl
  · exact List.eq_nil_iff_forall_not_mem.2 fun n hn => h ⟨n, (daysTo_mem.1 hn).1⟩
/-- how many days are left -/
def leftD (d : Mat.Dir) (a : Int) (c : Nat) (day : Value) : Nat := c - (d.val * (intOf day - a)).toNat
theorem leftD_at (d : Mat.Dir) (a : Int) (c k : Nat) (q : IntKind) : leftD d a c (.int q (a + d.val * (k : Int))) = c - k := by
  unfold leftD
  cases d <;> simp [intOf, Mat.Dir.val] <;> omega
theorem abides_below {β : Type} {B : Nat} {J : β → World → Prop} (h : AbidesFrom B J) {s : β} {W W' : World} (hs : J s W) (hb : Below W.heap.size W W') : J s W' :=
  h s W W' none hs ⟨hb.os, hb.tape, hb.output, hb.size, fun k hk _ => hb.block k hk⟩ (fun _ e => by cases e)
/-- a day between the first and the last one lies in the calendar, or is the first one behind it -/
theorem mid_day {d : Mat.Dir} {f t : Int} {k : Nat} (hp : d.past f t = false) (f0 : 0 ≤ f) (f1 : f ≤ 253402300800) (t0 : 0 ≤ t) (t1 : t ≤ 253402300800) (hk : k < d.cnt f t) : 0 ≤ f / 86400 + d.val * (k : Int) ∧ f / 86400 + d.val * (k : Int) ≤ 2932897 := by
  unfold Mat.Dir.past at hp
  unfold Mat.Dir.cnt at hk
  have hp := of_decide_eq_false hp
  cases d <;> simp only [Mat.Dir.val] at hp hk ⊢ <;> omega
/-- a day behind the calendar is the last one that is looked at -/
theorem last_day {d : Mat.Dir} {f t : Int} {k : Nat} (hp : d.past f t = false) (t1 : t ≤ 253402300800) (hd : d = .up ∨ f ≤ 253402300799) (hk : k < d.cnt f t) (he : 2932896 < f / 86400 + d.val * (k : Int)) : d.cnt f t = k + 1 := by
  unfold Mat.Dir.past at hp
  unfold Mat.Dir.cnt at hk ⊢
  have hp := of_decide_eq_false hp
  rcases hd with rfl | hd
  · simp only [Mat.Dir.val] at *; omega
  · cases d <;> simp only [Mat.Dir.val] at * <;> omega
theorem onB_out {x : Exp.Ex} {n : Int} (h : 2932896 < n) : x.onB n = false := onB_no.2 fun q => by have := (Mat.on_range q).2; omega
theorem past_mid {d : Mat.Dir} {f t : Int} {k : Nat} (hp : d.past f t = false) : d.past (f / 86400 + d.val * (k : Int)) (t / 86400) = decide (d.cnt f t ≤ k) := by
  unfold Mat.Dir.past at hp ⊢
  unfold Mat.Dir.cnt
  have hp := of_decide_eq_false hp
  rw [decide_eq_decide]
  cases d <;> simp only [Mat.Dir.val] at hp ⊢ <;> omega
/-- how many days may come -/
def Mat.Dir.lim (d : Mat.Dir) (f t : Int) : Nat := if d.past f t = true then 0 else 2932898
theorem lim_of {d : Mat.Dir} {f t : Int} (h : d.past f t = false) : d.lim f t = 2932898 := by unfold Mat.Dir.lim; rw [if_neg (by rw [h]; simp)]
theorem lim_lt {d : Mat.Dir} {f t : Int} {k : Nat} (h : k < d.lim f t) : d.past f t = false ∧ k < 2932898 := by
  unfold Mat.Dir.lim at h
  split at h
  · omega
  · exact ⟨by simpa using (by assumption : ¬ d.past f t = true), h⟩
end Go.Proofs.YtbehendogcghjaaDoor
