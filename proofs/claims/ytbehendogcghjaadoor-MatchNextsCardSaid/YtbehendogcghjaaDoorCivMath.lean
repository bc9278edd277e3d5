/- Plain mathematics of the calendar: leap years, days of dates, seconds of civil times; each number of days is that of one date. No program stands here. -/

namespace Go.Proofs.YtbehendogcghjaaDoor.Civ
/-- 1 in a leap year, otherwise 0 -/
def lp (y : Int) : Int := if y % 4 = 0 ∧ y % 100 ≠ 0 ∨ y % 400 = 0 then 1 else 0
/-- leap years before year y, from year 1 on -/
def lps (y : Int) : Int := (y - 1) / 4 - (y - 1) / 100 + (y - 1) / 400
/-- days from 1970-01-01 to the first day of year y -/
def dby (y : Int) : Int := 365 * (y - 1970) + lps y - 477
def dim (y m : Int) : Int := if m = 2 then 28 + lp y else if m = 4 ∨ m = 6 ∨ m = 9 ∨ m = 11 then 30 else 31
/-- days of a year before month m -/
def cum (y m : Int) : Int :=
  if m ≤ 1 then 0 else if m = 2 then 31 else (if m = 3 then 59 else if m = 4 then 90 else if m = 5 then 120 else if m = 6 then 151 else if m = 7 then 181 else if m = 8 then 212 else if m = 9 then 243 else if m = 10 then 273 else if m = 11 then 304 else if m = 12 then 334 else 365) + lp y
def num (y m d : Int) : Int := dby y + cum y m + d - 1
def Vld (y m d : Int) : Prop := 1970 ≤ y ∧ y ≤ 9999 ∧ 1 ≤ m ∧ m ≤ 12 ∧ 1 ≤ d ∧ d ≤ dim y m
theorem lp_01 (y : Int) : 0 ≤ lp y ∧ lp y ≤ 1 := by unfold lp; split <;> omega
theorem dby_succ (y : Int) : dby (y + 1) = dby y + 365 + lp y := by unfold dby lps lp; split <;> omega
theorem dby_first : dby 1970 = 0 := by decide
theorem dby_end : dby 10000 = 2932897 := by decide
theorem dim_bd (y m : Int) : 28 ≤ dim y m ∧ dim y m ≤ 31 := by have := lp_01 y; unfold dim; split <;> (try split) <;> omega
theorem cum_one (y : Int) : cum y 1 = 0 := by simp [cum]
theorem cum_end (y : Int) : cum y 13 = 365 + lp y := by simp [cum]
theorem cases12 {m : Int} (a : 1 ≤ m) (b : m ≤ 12) : m = 1 ∨ m = 2 ∨ m = 3 ∨ m = 4 ∨ m = 5 ∨ m = 6 ∨ m = 7 ∨ m = 8 ∨ m = 9 ∨ m = 10 ∨ m = 11 ∨ m = 12 := by omega
theorem cum_succ (y m : Int) (a : 1 ≤ m) (b : m ≤ 12) : cum y (m + 1) = cum y m + dim y m := by
  rcases cases12 a b with rfl | rfl | rfl | rfl | rfl | rfl | rfl | rfl | rfl | rfl | rfl | rfl <;> simp [cum, dim] <;> omega
theorem cum_bd (y m : Int) : 0 ≤ cum y m ∧ cum y m ≤ 366 := by
  have := lp_01 y
  unfold cum; repeat' split
  all_goals omega
theorem dby_mono {a b : Int} (h : a ≤ b) : dby a ≤ dby b := by unfold dby lps; omega
theorem dby_lt {a b : Int} (h : a < b) : dby a + 365 + lp a ≤ dby b := by have := dby_succ a; have := dby_mono (show a + 1 ≤ b by omega); omega
theorem cum_lt (y : Int) {a b : Int} (h0 : 1 ≤ a) (h : a < b) (h1 : b ≤ 13) : cum y a + dim y a ≤ cum y b := by
  rw [← cum_succ y a h0 (by omega)]
  have l := lp_01 y
  have m : ∀ k : Nat, a + 1 + k ≤ 13 → cum y (a + 1) ≤ cum y (a + 1 + k) := by
    intro k
    induction k with
    | zero => intro _; simp
    | succ k ih =>
      intro hk
      have h2 := ih (by omega)
      have h3 := cum_succ y (a + 1 + k) (by omega) (by omega)
      have h4 := dim_bd y (a + 1 + k)
      have h5 : a + 1 + ((k + 1 : Nat) : Int) = a + 1 + k + 1 := by omega
      rw [h5]; omega
  have := m (b - (a + 1)).toNat (by omega)
  have e : a + 1 + ((b - (a + 1)).toNat : Int) = b := by omega
  rwa [e] at this
theorem num_bd {y m d : Int} (h : Vld y m d) : dby y ≤ num y m d ∧ num y m d < dby y + 365 + lp y := by
  obtain ⟨_, _, a, b, c, e⟩ := h
  have := cum_bd y m
  have := cum_lt y a (show m < 13 by omega) (by omega)
  rw [cum_end] at this
  unfold num; omega
theorem num_range {y m d : Int} (h : Vld y m d) : 0 ≤ num y m d ∧ num y m d ≤ 2932896 := by
  have b := num_bd h
  have a1 := dby_mono h.1
  have a2 := dby_lt (show y < 10000 by have := h.2.1; omega)
  rw [dby_first] at a1; rw [dby_end] at a2; omega
/-- the earlier date has the smaller days -/
theorem num_lt {y m d y' m' d' : Int} (h : Vld y m d) (h' : Vld y' m' d') (l : y < y' ∨ y = y' ∧ (m < m' ∨ m = m' ∧ d < d')) : num y m d < num y' m' d' := by
  have b := num_bd h
  have b' := num_bd h'
  rcases l with l | ⟨rfl, l | ⟨rfl, l⟩⟩
  · have := dby_lt l; omega
  · have := cum_lt y h.2.2.1 l (by have := h'.2.2.2.1; omega)
    have := h.2.2.2.2.2; have := h'.2.2.2.2.1; unfold num; omega
  · unfold num; omega
theorem num_uniq {y m d y' m' d' : Int} (h : Vld y m d) (h' : Vld y' m' d') (e : num y m d = num y' m' d') : y = y' ∧ m = m' ∧ d = d' := by
  have a := @num_lt _ _ _ _ _ _ h h'
  have b := @num_lt _ _ _ _ _ _ h' h
  have c : ¬ (y < y' ∨ y = y' ∧ (m < m' ∨ m = m' ∧ d < d')) := fun c => by have := a c; omega
  have c' : ¬ (y' < y ∨ y' = y ∧ (m' < m ∨ m' = m ∧ d' < d)) := fun c => by have := b c; omega
  omega
theorem year_ex (n : Int) (h0 : 0 ≤ n) : ∀ k : Nat, n < dby (1970 + k) → ∃ y : Int, 1970 ≤ y ∧ y < 1970 + k ∧ dby y ≤ n ∧ n < dby (y + 1) := by
  intro k
  induction k with
  | zero => intro h; have := dby_first; simp at h; omega
  | succ k ih =>
    intro h
    by_cases c : n < dby (1970 + k)
    · obtain ⟨y, a, b, e⟩ := ih c
      exact ⟨y, a, by omega, e⟩
    · refine ⟨1970 + k, by omega, by omega, by omega, ?_⟩
      rwa [show (1970 : Int) + ((k + 1 : Nat) : Int) = 1970 + k + 1 by omega] at h
theorem month_ex (y r : Int) (h0 : 0 ≤ r) (h1 : r < 365 + lp y) : ∃ m : Int, 1 ≤ m ∧ m ≤ 12 ∧ cum y m ≤ r ∧ r < cum y m + dim y m := by
  have l := lp_01 y
  have m : ∀ k : Nat, k ≤ 12 → r < cum y (1 + k) → ∃ m : Int, 1 ≤ m ∧ m ≤ 12 ∧ cum y m ≤ r ∧ r < cum y m + dim y m := by
    intro k
    induction k with
    | zero => intro _ h; have := cum_one y; simp at h; omega
    | succ k ih =>
      intro hk h
      by_cases c : r < cum y (1 + k)
      · exact ih (by omega) c
      · refine ⟨1 + k, by omega, by omega, by omega, ?_⟩
        rw [show (1 : Int) + ((k + 1 : Nat) : Int) = 1 + k + 1 by omega, cum_succ _ _ (by omega) (by omega)] at h
        exact h
  exact m 12 (by omega) (by have := cum_end y; simp; omega)
theorem date_ex (n : Int) (h0 : 0 ≤ n) (h1 : n ≤ 2932896) : ∃ y m d : Int, Vld y m d ∧ num y m d = n := by
  obtain ⟨y, a, b, c, e⟩ := year_ex n h0 8030 (by have := dby_end; simp; omega)
  have s := dby_succ y
  obtain ⟨m, m1, m2, m3, m4⟩ := month_ex y (n - dby y) (by omega) (by omega)
  exact ⟨y, m, n - dby y - cum y m + 1, ⟨a, by omega, m1, m2, by omega, by omega⟩, by unfold num; omega⟩
theorem dby_cycle (y : Int) : dby (y + 400) = dby y + 146097 := by unfold dby lps; omega
theorem lp_cycle (y : Int) : lp (y + 400) = lp y := by
  unfold lp
  have a : (y + 400) % 4 = y % 4 := by omega
  have b : (y + 400) % 100 = y % 100 := by omega
  have c : (y + 400) % 400 = y % 400 := by omega
  rw [a, b, c]
theorem dim_cycle (y m : Int) : dim (y + 400) m = dim y m := by unfold dim; rw [lp_cycle]
theorem cum_cycle (y m : Int) : cum (y + 400) m = cum y m := by unfold cum; rw [lp_cycle]
theorem num_cycle (y m d : Int) : num (y + 400) m d = num y m d + 146097 := by unfold num; rw [dby_cycle, cum_cycle]; omega

def secs (y m d h i s : Int) : Int := 86400 * num y m d + 3600 * h + 60 * i + s
theorem vld_cycle {y m d : Int} (v : Vld y m d) (h : y + 400 ≤ 9999) : Vld (y + 400) m d := by
  obtain ⟨a, b, c, e, f, g⟩ := v
  exact ⟨by omega, h, c, e, f, by rw [dim_cycle]; exact g⟩
end Go.Proofs.YtbehendogcghjaaDoor.Civ
