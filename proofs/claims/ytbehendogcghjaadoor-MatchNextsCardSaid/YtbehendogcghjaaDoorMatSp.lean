/- Plain facts of the search for the first matching second, day by day, in a direction. -/
import Derived.Test.YtbehendogcghjaaDoorMatFp
import Derived.Test.YtbehendogcghjaaDoorMatGp
namespace Go.Proofs.YtbehendogcghjaaDoor
open Go.ChangeShapes Go.RowKit

/-- a local second that is matched -/
def Exp.Ex.Lm (x : Exp.Ex) (t : Int) : Prop := Mat.Lm x.a4 x.a3 x.a5 x.b3 x.b5 x.a2 x.a1 x.a0 t
/-- from which second of a day on it is looked -/
def Mat.Dir.st (d : Mat.Dir) (f day : Int) : Nat := if day = f / 86400 then (f % 86400).toNat else d.fst 86400
/-- what is found on a day -/
def Mat.Dir.onDay (d : Mat.Dir) (x : Exp.Ex) (s : Nat) : Option (Nat × Nat × Nat) := d.fh x.a0 x.a1 x.a2 (s / 3600) (s % 3600 / 60) (s % 60)
def Mat.Dir.hit (d : Mat.Dir) (x : Exp.Ex) (f t day : Int) : Option Int := match d.onDay x (d.st f day) with
  | some p => if d.past (86400 * day + Mat.sec3 p) t = true then none else some (86400 * day + Mat.sec3 p)
  | none => none
/-- what is found -/
noncomputable def Mat.Dir.seek (d : Mat.Dir) (x : Exp.Ex) (f t : Int) : Option Int := (d.daysL x f t).findSome? (d.hit x f t)
theorem hms_of {x : Exp.Ex} (hok : x.Ok) : Mat.Hms x.a2 x.a1 x.a0 :=
  ⟨fun _ h => by have := (hok.inn 2 (by decide) _ h).2; exact Nat.lt_succ_of_le this, fun _ h => by have := (hok.inn 1 (by decide) _ h).2; exact Nat.lt_succ_of_le this, fun _ h => by have := (hok.inn 0 (by decide) _ h).2; exact Nat.lt_succ_of_le this⟩
theorem onDay_is {d : Mat.Dir} {x : Exp.Ex} (hok : x.Ok) {s : Nat} (hs : s < 86400) : d.Fst (Mat.Ck x.a2 x.a1 x.a0) s (86399 - (d.fst 86400 : Nat) : Int) ((d.onDay x s).map Mat.sec3) := Mat.fh_is (hms_of hok) hs
theorem lm_iff {x : Exp.Ex} {t : Int} : x.Lm t ↔ x.On (t / 86400) ∧ Mat.Ck x.a2 x.a1 x.a0 (t % 86400) := by
  unfold Exp.Ex.Lm Mat.Lm Mat.Ck
  exact ⟨fun h => ⟨h.1, by omega, by omega, h.2⟩, fun h => ⟨h.1, h.2.2.2⟩⟩
/-- the days on the way: one behind the other -/
theorem daysL_mem {d : Mat.Dir} {x : Exp.Ex} {f t n : Int} (hp : d.past f t = false) : n ∈ d.daysL x f t ↔ x.On n ∧ d.val * (f / 86400) ≤ d.val * n ∧ d.val * n ≤ d.val * (t / 86400) := by
  unfold Mat.Dir.daysL
  rw [if_neg (by rw [hp]; simp), daysTo_mem]
  unfold Mat.Dir.past at hp
  have hp := of_decide_eq_false hp
  constructor
  · rintro ⟨h, i, hi, rfl⟩
    refine ⟨h, ?_⟩
    unfold Mat.Dir.cnt at hi
    cases d <;> simp only [Mat.Dir.val] at hp hi ⊢ <;> omega
  · rintro ⟨h, h1, h2⟩
    refine ⟨h, (d.val * (n - f / 86400)).toNat, ?_⟩
    unfold Mat.Dir.cnt
    cases d <;> simp only [Mat.Dir.val] at hp h1 h2 ⊢ <;> omega
theorem daysL_sorted (d : Mat.Dir) (x : Exp.Ex) (f t : Int) : (d.daysL x f t).Pairwise (fun p q : Int => d.val * p < d.val * q) := by
  unfold Mat.Dir.daysL
  split
  · exact List.Pairwise.nil
  · exact daysTo_sorted _ _ _ _
theorem st_lt (d : Mat.Dir) (f day : Int) : d.st f day < 86400 := by
  unfold Mat.Dir.st
  have := d.fst_lt (n := 86400) (by decide)
  split <;> omega
/-- on a day on the way: the first second from f on, up to t -/
theorem hit_some {d : Mat.Dir} {x : Exp.Ex} (hok : x.Ok) {f t day u : Int} (h1 : d.val * (f / 86400) ≤ d.val * day) (h : d.hit x f t day = some u) :
    u / 86400 = day ∧ Mat.Ck x.a2 x.a1 x.a0 (u % 86400) ∧ d.val * f ≤ d.val * u ∧ d.val * u ≤ d.val * t ∧ ∀ y, y / 86400 = day → d.val * f ≤ d.val * y → d.val * y < d.val * u → ¬ Mat.Ck x.a2 x.a1 x.a0 (y % 86400) := by
  have F := onDay_is (d := d) hok (st_lt d f day)
  unfold Mat.Dir.hit at h
  cases e : d.onDay x (d.st f day) with
  | none => rw [e] at h; cases h
  | some p =>
    rw [e] at h F
    simp only [Option.map_some] at F
    simp only at h
    split at h
    · cases h
    · rename_i hp
      obtain rfl : 86400 * day + Mat.sec3 p = u := by simpa using h
      obtain ⟨g1, g2, g3, g4⟩ := F
      obtain ⟨g5, g6, g7⟩ := id g3
      have e1 : (86400 * day + Mat.sec3 p) / 86400 = day := by omega
      have e2 : (86400 * day + Mat.sec3 p) % 86400 = Mat.sec3 p := by omega
      have hp' : ¬ 0 < d.val * (86400 * day + Mat.sec3 p - t) := by
        unfold Mat.Dir.past at hp
        simpa using hp
      unfold Mat.Dir.st at g1 g4
      refine ⟨e1, by rw [e2]; exact g3, ?_, ?_, ?_⟩
      · cases d <;> simp only [Mat.Dir.val, Mat.Dir.fst] at * <;> split at g1 <;> omega
      · cases d <;> simp only [Mat.Dir.val] at * <;> omega
      · intro y y1 y2 y3
        refine g4 _ ?_ ?_
        · cases d <;> simp only [Mat.Dir.val, Mat.Dir.fst] at * <;> split <;> omega
        · cases d <;> simp only [Mat.Dir.val] at * <;> omega
theorem hit_none {d : Mat.Dir} {x : Exp.Ex} (hok : x.Ok) {f t day : Int} (h : d.hit x f t day = none) :
    ∀ y, y / 86400 = day → d.val * f ≤ d.val * y → d.val * y ≤ d.val * t → ¬ Mat.Ck x.a2 x.a1 x.a0 (y % 86400) := by
  have F := onDay_is (d := d) hok (st_lt d f day)
  intro y y1 y2 y3 hc
  have ef : ∀ z : Int, 0 ≤ z → z < 86400 → d.val * z ≤ d.val * (86399 - (d.fst 86400 : Nat) : Int) := fun z a b => by cases d <;> simp [Mat.Dir.val, Mat.Dir.fst] <;> omega
  have ge : d.val * (d.st f day : Nat) ≤ d.val * (y % 86400) := by
    unfold Mat.Dir.st
    cases d <;> simp only [Mat.Dir.val, Mat.Dir.fst] at * <;> split <;> omega
  unfold Mat.Dir.hit at h
  cases e : d.onDay x (d.st f day) with
  | none =>
    rw [e] at F
    exact F _ ge (ef _ (by omega) (by omega)) hc
  | some p =>
    rw [e] at h F
    simp only [Option.map_some] at F
    simp only at h
    split at h
    · rename_i hp
      obtain ⟨g1, g2, g3, g4⟩ := F
      obtain ⟨g5, g6, g7⟩ := id g3
      have hp' : 0 < d.val * (86400 * day + Mat.sec3 p - t) := by
        unfold Mat.Dir.past at hp
        simpa using hp
      refine g4 _ ge ?_ hc
      cases d <;> simp only [Mat.Dir.val] at * <;> omega
    · cases h
/-- **what is found is the first matching second** -/
theorem seek_is {d : Mat.Dir} {x : Exp.Ex} (hok : x.Ok) (f t : Int) : d.Fst x.Lm f t (d.seek x f t) := by
  cases hp : d.past f t with
  | true =>
    have e : d.seek x f t = none := by unfold Mat.Dir.seek Mat.Dir.daysL; rw [if_pos hp]; rfl
    rw [e]
    intro y h1 h2
    unfold Mat.Dir.past at hp
    have hp := of_decide_eq_true hp
    exfalso
    cases d <;> simp only [Mat.Dir.val] at * <;> omega
  | false =>
    have hq := of_decide_eq_false hp
    cases e : d.seek x f t with
    | none =>
      intro y h1 h2 h3
      rw [lm_iff] at h3
      have m : y / 86400 ∈ d.daysL x f t := (daysL_mem hp).2 ⟨h3.1, by cases d <;> simp only [Mat.Dir.val] at * <;> omega, by cases d <;> simp only [Mat.Dir.val] at * <;> omega⟩
      exact hit_none hok (List.findSome?_eq_none_iff.1 e _ m) y rfl h1 h2 h3.2
    | some u =>
      obtain ⟨l, a, r, e1, e2, e3⟩ := List.findSome?_eq_some_iff.1 e
      have ma := (daysL_mem hp).1 (show a ∈ d.daysL x f t by rw [e1]; simp)
      obtain ⟨g1, g2, g3, g4, g5⟩ := hit_some hok ma.2.1 e2
      refine ⟨g3, g4, lm_iff.2 ⟨by rw [g1]; exact ma.1, g2⟩, ?_⟩
      intro y h1 h2 h3
      rw [lm_iff] at h3
      have hyt : d.val * y ≤ d.val * t := by omega
      have m : y / 86400 ∈ d.daysL x f t := (daysL_mem hp).2 ⟨h3.1, by cases d <;> simp only [Mat.Dir.val] at * <;> omega, by cases d <;> simp only [Mat.Dir.val] at * <;> omega⟩
      by_cases c : y / 86400 = a
      · exact g5 y c h1 h2 h3.2
      · have so := daysL_sorted d x f t
        rw [e1] at m so
        rw [List.pairwise_append, List.pairwise_cons] at so
        rcases List.mem_append.1 m with q | q
        · exact hit_none hok (e3 _ q) y rfl h1 hyt h3.2
        · rcases List.mem_cons.1 q with q | q
          · exact c q
          · have := so.2.1.1 _ q
            cases d <;> simp only [Mat.Dir.val] at * <;> omega
end Go.Proofs.YtbehendogcghjaaDoor
