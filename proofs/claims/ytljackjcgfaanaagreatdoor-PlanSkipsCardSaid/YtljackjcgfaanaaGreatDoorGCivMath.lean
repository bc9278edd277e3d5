/- Plain mathematics of the calendar: leap years, days of dates, seconds of civil times; each number of days is that of one date. No program stands here. Plain mathematics of the dates that an expression matches: within eight years of each day one is matched, if one is matched at all behind it. No program stands here. -/

/- Plain mathematics of the calendar: leap years, days of dates, seconds of civil times; each number of days is that of one date. No program stands here. -/
namespace Go.Proofs.YtljackjcgfaanaaGreatDoor.Civ
/-- 1 in a leap year, otherwise 0 -/
def lp (y : Int) : Int := if y % 4 = 0 ∧ y % 100 ≠ 0 ∨ y % 400 = 0 then 1 else 0
/-- leap years before year y, from year 1 on -/
def lps (y : Int) : Int := (y - 1) / 4 - (y - 1) / 100 + (y - 1) / 400
/-- days from 1970-01-01 to the first day of year y -/
def dby (y : Int) : Int := 365 * (y - 1970) + lps y - 477
def dim (y m : Int) : Int := if m = 2 then 28 + lp y else if m = 4 ∨ m = 6 ∨ m = 9 ∨ m = 11 then 30 else 31
/-- days of a year before month m -/
def cum (y m : Int) : Int :=
  if m ≤ 1 then 0 else if m = 2 then 31 else (if m = 3 then 59 else if m = 4 then 90 else if m = 5 then 120 else if m = 6 then 151 else if m = 7 then 181 else if m = 8 then 212 else if m = 9 then 243 else if m = 10 then 273 else if m = 11 then 304 else if m = 12 then 334 else 365) + lp y
def num (y m d : Int) : Int := dby y + cum y m + d - 1
def Vld (y m d : Int) : Prop := 1970 ≤ y ∧ y ≤ 9999 ∧ 1 ≤ m ∧ m ≤ 12 ∧ 1 ≤ d ∧ d ≤ dim y m
theorem lp_01 (y : Int) : 0 ≤ lp y ∧ lp y ≤ 1 := by unfold lp; split <;> omega
theorem dby_succ (y : Int) : dby (y + 1) = dby y + 365 + lp y := by unfold dby lps lp; split <;> omega
theorem dby_first : dby 1970 = 0 := by decide
theorem dby_end : dby 10000 = 2932897 := by decide
theorem dim_bd (y m : Int) : 28 ≤ dim y m ∧ dim y m ≤ 31 := by have := lp_01 y; unfold dim; split <;> (try split) <;> omega
theorem cum_one (y : Int) : cum y 1 = 0 := by simp [cum]
theorem cum_end (y : Int) : cum y 13 = 365 + lp y := by simp [cum]
theorem cases12 {m : Int} (a : 1 ≤ m) (b : m ≤ 12) : m = 1 ∨ m = 2 ∨ m = 3 ∨ m = 4 ∨ m = 5 ∨ m = 6 ∨ m = 7 ∨ m = 8 ∨ m = 9 ∨ m = 10 ∨ m = 11 ∨ m = 12 := by omega
theorem cum_succ (y m : Int) (a : 1 ≤ m) (b : m ≤ 12) : cum y (m + 1) = cum y m + dim y m := by
  rcases cases12 a b with rfl | rfl | rfl | rfl | rfl | rfl | rfl | rfl | rfl | rfl | rfl | rfl <;> simp [cum, dim] <;> omega
theorem cum_bd (y m : Int) : 0 ≤ cum y m ∧ cum y m ≤ 366 := by
  have := lp_01 y
  unfold cum; repeat' split
  all_goals omega
theorem dby_mono {a b : Int} (h : a ≤ b) : dby a ≤ dby b := by unfold dby lps; omega
theorem dby_lt {a b : Int} (h : a < b) : dby a + 365 + lp a ≤ dby b := by have := dby_succ a; have := dby_mono (show a + 1 ≤ b by omega); omega
theorem cum_lt (y : Int) {a b : Int} (h0 : 1 ≤ a) (h : a < b) (h1 : b ≤ 13) : cum y a + dim y a ≤ cum y b := by
  rw [← cum_succ y a h0 (by omega)]
  have l := lp_01 y
  have m : ∀ k : Nat, a + 1 + k ≤ 13 → cum y (a + 1) ≤ cum y (a + 1 + k) := by
    intro k
    induction k with
    | zero => intro _; simp
    | succ k ih =>
      intro hk
      have h2 := ih (by omega)
      have h3 := cum_succ y (a + 1 + k) (by omega) (by omega)
      have h4 := dim_bd y (a + 1 + k)
      have h5 : a + 1 + ((k + 1 : Nat) : Int) = a + 1 + k + 1 := by omega
      rw [h5]; omega
  have := m (b - (a + 1)).toNat (by omega)
  have e : a + 1 + ((b - (a + 1)).toNat : Int) = b := by omega
  rwa [e] at this
theorem num_bd {y m d : Int} (h : Vld y m d) : dby y ≤ num y m d ∧ num y m d < dby y + 365 + lp y := by
  obtain ⟨_, _, a, b, c, e⟩ := h
  have := cum_bd y m
  have := cum_lt y a (show m < 13 by omega) (by omega)
  rw [cum_end] at this
  unfold num; omega
theorem num_range {y m d : Int} (h : Vld y m d) : 0 ≤ num y m d ∧ num y m d ≤ 2932896 := by
  have b := num_bd h
  have a1 := dby_mono h.1
  have a2 := dby_lt (show y < 10000 by have := h.2.1; omega)
  rw [dby_first] at a1; rw [dby_end] at a2; omega
/-- the earlier date has the smaller days -/
theorem num_lt {y m d y' m' d' : Int} (h : Vld y m d) (h' : Vld y' m' d') (l : y < y' ∨ y = y' ∧ (m < m' ∨ m = m' ∧ d < d')) : num y m d < num y' m' d' := by
  have b := num_bd h
  have b' := num_bd h'
  rcases l with l | ⟨rfl, l | ⟨rfl, l⟩⟩
  · have := dby_lt l; omega
  · have := cum_lt y h.2.2.1 l (by have := h'.2.2.2.1; omega)
    have := h.2.2.2.2.2; have := h'.2.2.2.2.1; unfold num; omega
  · unfold num; omega
theorem num_uniq {y m d y' m' d' : Int} (h : Vld y m d) (h' : Vld y' m' d') (e : num y m d = num y' m' d') : y = y' ∧ m = m' ∧ d = d' := by
  have a := @num_lt _ _ _ _ _ _ h h'
  have b := @num_lt _ _ _ _ _ _ h' h
  have c : ¬ (y < y' ∨ y = y' ∧ (m < m' ∨ m = m' ∧ d < d')) := fun c => by have := a c; omega
  have c' : ¬ (y' < y ∨ y' = y ∧ (m' < m ∨ m' = m ∧ d' < d)) := fun c => by have := b c; omega
  omega
theorem year_ex (n : Int) (h0 : 0 ≤ n) : ∀ k : Nat, n < dby (1970 + k) → ∃ y : Int, 1970 ≤ y ∧ y < 1970 + k ∧ dby y ≤ n ∧ n < dby (y + 1) := by
  intro k
  induction k with
  | zero => intro h; have := dby_first; simp at h; omega
  | succ k ih =>
    intro h
    by_cases c : n < dby (1970 + k)
    · obtain ⟨y, a, b, e⟩ := ih c
      exact ⟨y, a, by omega, e⟩
    · refine ⟨1970 + k, by omega, by omega, by omega, ?_⟩
      rwa [show (1970 : Int) + ((k + 1 : Nat) : Int) = 1970 + k + 1 by omega] at h
theorem month_ex (y r : Int) (h0 : 0 ≤ r) (h1 : r < 365 + lp y) : ∃ m : Int, 1 ≤ m ∧ m ≤ 12 ∧ cum y m ≤ r ∧ r < cum y m + dim y m := by
  have l := lp_01 y
  have m : ∀ k : Nat, k ≤ 12 → r < cum y (1 + k) → ∃ m : Int, 1 ≤ m ∧ m ≤ 12 ∧ cum y m ≤ r ∧ r < cum y m + dim y m := by
    intro k
    induction k with
    | zero => intro _ h; have := cum_one y; simp at h; omega
    | succ k ih =>
      intro hk h
      by_cases c : r < cum y (1 + k)
      · exact ih (by omega) c
      · refine ⟨1 + k, by omega, by omega, by omega, ?_⟩
        rw [show (1 : Int) + ((k + 1 : Nat) : Int) = 1 + k + 1 by omega, cum_succ _ _ (by omega) (by omega)] at h
        exact h
  exact m 12 (by omega) (by have := cum_end y; simp; omega)
theorem date_ex (n : Int) (h0 : 0 ≤ n) (h1 : n ≤ 2932896) : ∃ y m d : Int, Vld y m d ∧ num y m d = n := by
  obtain ⟨y, a, b, c, e⟩ := year_ex n h0 8030 (by have := dby_end; simp; omega)
  have s := dby_succ y
  obtain ⟨m, m1, m2, m3, m4⟩ := month_ex y (n - dby y) (by omega) (by omega)
  exact ⟨y, m, n - dby y - cum y m + 1, ⟨a, by omega, m1, m2, by omega, by omega⟩, by unfold num; omega⟩
theorem dby_cycle (y : Int) : dby (y + 400) = dby y + 146097 := by unfold dby lps; omega
theorem lp_cycle (y : Int) : lp (y + 400) = lp y := by
  unfold lp
  have a : (y + 400) % 4 = y % 4 := by omega
  have b : (y + 400) % 100 = y % 100 := by omega
  have c : (y + 400) % 400 = y % 400 := by omega
  rw [a, b, c]
theorem dim_cycle (y m : Int) : dim (y + 400) m = dim y m := by unfold dim; rw [lp_cycle]
theorem cum_cycle (y m : Int) : cum (y + 400) m = cum y m := by unfold cum; rw [lp_cycle]
theorem num_cycle (y m d : Int) : num (y + 400) m d = num y m d + 146097 := by unfold num; rw [dby_cycle, cum_cycle]; omega

def secs (y m d h i s : Int) : Int := 86400 * num y m d + 3600 * h + 60 * i + s
theorem vld_cycle {y m d : Int} (v : Vld y m d) (h : y + 400 ≤ 9999) : Vld (y + 400) m d := by
  obtain ⟨a, b, c, e, f, g⟩ := v
  exact ⟨by omega, h, c, e, f, by rw [dim_cycle]; exact g⟩
end Go.Proofs.YtljackjcgfaanaaGreatDoor.Civ
/- Plain mathematics of the dates that an expression matches: within eight years of each day one is matched, if one is matched at all behind it. No program stands here. -/
namespace Go.Proofs.YtljackjcgfaanaaGreatDoor.Mat
open Go.Proofs.YtljackjcgfaanaaGreatDoor.Civ

/-- does a date match: its month, its day, its day of the week; the sets Month, Day, Week, and whether Day and Week are stars -/
def mt (M D W : Nat) (b3 b5 : Bool) (m d wk : Nat) : Bool :=
  M.testBit m && (if b3 = true then (if b5 = true then true else W.testBit wk) else if b5 = true then D.testBit d else (D.testBit d || W.testBit wk))
/-- the day with this number matches -/
def On (M D W : Nat) (b3 b5 : Bool) (n : Int) : Prop := ∃ y m d : Int, Vld y m d ∧ num y m d = n ∧ mt M D W b3 b5 m.toNat d.toNat ((n + 4) % 7).toNat = true

/-- of eight years that follow one another one is a leap year -/
theorem leap8 (y : Int) : ∃ k : Int, 1 ≤ k ∧ k ≤ 8 ∧ lp (y + k) = 1 ∧ ∀ j : Int, 1 ≤ j → j < k → lp (y + j) = 0 := by
  have bit : ∀ z : Int, lp z = 0 ∨ lp z = 1 := fun z => by have := lp_01 z; omega
  have some1 : lp (y + 1) = 1 ∨ lp (y + 2) = 1 ∨ lp (y + 3) = 1 ∨ lp (y + 4) = 1 ∨ lp (y + 5) = 1 ∨ lp (y + 6) = 1 ∨ lp (y + 7) = 1 ∨ lp (y + 8) = 1 := by
    have l : ∀ z : Int, z % 4 = 0 ∧ z % 100 ≠ 0 → lp z = 1 := fun z h => by unfold lp; rw [if_pos (.inl h)]
    by_cases c : (y + 4 - (y + 4) % 4) % 100 = 0
    · have : ∃ k : Int, (k = 5 ∨ k = 6 ∨ k = 7 ∨ k = 8) ∧ (y + k) % 4 = 0 ∧ (y + k) % 100 ≠ 0 := ⟨8 - y % 4, by omega, by omega, by omega⟩
      obtain ⟨k, hk, h⟩ := this
      have := l _ h
      rcases hk with rfl | rfl | rfl | rfl
      · exact .inr (.inr (.inr (.inr (.inl this))))
      · exact .inr (.inr (.inr (.inr (.inr (.inl this)))))
      · exact .inr (.inr (.inr (.inr (.inr (.inr (.inl this))))))
      · exact .inr (.inr (.inr (.inr (.inr (.inr (.inr this))))))
    · have : ∃ k : Int, (k = 1 ∨ k = 2 ∨ k = 3 ∨ k = 4) ∧ (y + k) % 4 = 0 ∧ (y + k) % 100 ≠ 0 := ⟨4 - y % 4, by omega, by omega, by omega⟩
      obtain ⟨k, hk, h⟩ := this
      have := l _ h
      rcases hk with rfl | rfl | rfl | rfl
      · exact .inl this
      · exact .inr (.inl this)
      · exact .inr (.inr (.inl this))
      · exact .inr (.inr (.inr (.inl this)))
  have first : ∀ n : Nat, (∃ k : Int, 1 ≤ k ∧ k ≤ n ∧ lp (y + k) = 1) → ∃ k : Int, 1 ≤ k ∧ k ≤ n ∧ lp (y + k) = 1 ∧ ∀ j : Int, 1 ≤ j → j < k → lp (y + j) = 0 := by
    intro n
    induction n with
    | zero => rintro ⟨k, a, b, _⟩; omega
    | succ n ih =>
      rintro ⟨k, a, b, c⟩
      by_cases h : ∃ k : Int, 1 ≤ k ∧ k ≤ n ∧ lp (y + k) = 1
      · obtain ⟨q, q1, q2, q3, q4⟩ := ih h
        exact ⟨q, q1, by omega, q3, q4⟩
      · refine ⟨k, a, b, c, fun j j1 j2 => ?_⟩
        rcases bit (y + j) with e | e
        · exact e
        · exact absurd ⟨j, j1, by omega, e⟩ h
  have e8 : ∃ k : Int, 1 ≤ k ∧ k ≤ (8 : Nat) ∧ lp (y + k) = 1 := by
    rcases some1 with h | h | h | h | h | h | h | h
    · exact ⟨1, by omega, by omega, h⟩
    · exact ⟨2, by omega, by omega, h⟩
    · exact ⟨3, by omega, by omega, h⟩
    · exact ⟨4, by omega, by omega, h⟩
    · exact ⟨5, by omega, by omega, h⟩
    · exact ⟨6, by omega, by omega, h⟩
    · exact ⟨7, by omega, by omega, h⟩
    · exact ⟨8, by omega, by omega, h⟩
  obtain ⟨k, a, b, c, d⟩ := first 8 e8
  exact ⟨k, a, by omega, c, d⟩
/-- the first of January, some years on, with no leap year in between -/
theorem dby_far (y : Int) : ∀ k : Nat, (∀ j : Int, 1 ≤ j → j < k + 1 → lp (y + j) = 0) → dby (y + (k + 1 : Nat)) = dby y + 365 * (k + 1 : Nat) + lp y
  | 0, _ => by have := dby_succ y; simpa using this
  | k + 1, h => by
    have ih := dby_far y k (fun j a b => h j a (by omega))
    have z := h (k + 1 : Nat) (by omega) (by omega)
    have s := dby_succ (y + (k + 1 : Nat))
    have e : y + ((k + 1 : Nat) : Int) + 1 = y + ((k + 1 + 1 : Nat) : Int) := by omega
    rw [e] at s
    omega
theorem feb29 (y : Int) : num y 2 29 = dby y + 59 := by
  unfold num cum
  simp
  omega
theorem year_of {n : Int} (h0 : 0 ≤ n) (h1 : n ≤ 2932896) : ∃ y : Int, 1970 ≤ y ∧ y ≤ 9999 ∧ dby y ≤ n ∧ n < dby (y + 1) := by
  obtain ⟨y, m, d, v, e⟩ := date_ex n h0 h1
  have b := num_bd v
  have s := dby_succ y
  exact ⟨y, v.1, v.2.1, by omega, by omega⟩
/-- a day of the year behind, if that is not the last one -/
theorem next_year {y n n0 : Int} (hy : dby y ≤ n) (h0 : n + 2922 < n0) (h1 : n0 ≤ 2932896) : y + 8 ≤ 9999 := by
  have e := dby_end
  refine Classical.byContradiction fun c => ?_
  have m := dby_mono (show (9992 : Int) ≤ y by omega)
  have k : dby 9992 = 2929975 := by decide
  omega
/-- **one is matched within eight years**, if one is matched at all from this day on -/
theorem near {M D W : Nat} {b3 b5 : Bool} {n n0 : Int} (hn : 0 ≤ n) (hl : n ≤ n0) (hm : n0 ≤ 2932896) (h : On M D W b3 b5 n0) : ∃ n1, n ≤ n1 ∧ n1 ≤ n0 ∧ n1 ≤ n + 2922 ∧ On M D W b3 b5 n1 := by
  by_cases hc : n0 ≤ n + 2922
  · exact ⟨n0, hl, Int.le_refl _, hc, h⟩
  obtain ⟨y0, m, d, v, e, t⟩ := h
  obtain ⟨y, a1, a2, a3, a4⟩ := year_of hn (by omega)
  have y8 := next_year a3 (by omega) hm
  have s0 := dby_succ y
  have s1 := dby_succ (y + 1)
  have l0 := lp_01 y
  have l1 := lp_01 (y + 1)
  have e2 : y + 1 + 1 = y + 2 := by omega
  rw [e2] at s1
  obtain ⟨_, _, m1, m12, d1, dl⟩ := v
  unfold mt at t
  simp only [Bool.and_eq_true] at t
  obtain ⟨tM, tD⟩ := t
  -- the day of the week alone
  have byW : W.testBit ((n0 + 4) % 7).toNat = true → b5 = false → ∃ n1, n ≤ n1 ∧ n1 ≤ n0 ∧ n1 ≤ n + 2922 ∧ On M D W b3 b5 n1 := by
    intro hw h5
    obtain ⟨f, hf⟩ : ∃ f, num (y + 1) m 1 = f := ⟨_, rfl⟩
    obtain ⟨k, k0, k6, kw⟩ : ∃ k : Int, 0 ≤ k ∧ k ≤ 6 ∧ (f + k + 4) % 7 = (n0 + 4) % 7 := ⟨(n0 - f) % 7, by omega, by omega, by omega⟩
    have bd := dim_bd (y + 1) m
    have v' : Vld (y + 1) m (1 + k) := ⟨by omega, by omega, m1, m12, by omega, by omega⟩
    have ev : num (y + 1) m (1 + k) = f + k := by rw [← hf]; unfold num; omega
    have b := num_bd v'
    rw [ev] at b
    refine ⟨f + k, by omega, by omega, by omega, y + 1, m, 1 + k, v', ev, ?_⟩
    unfold mt
    rw [tM, kw, h5]
    cases b3 <;> simp [hw]
  -- the day of the month
  have byD : (∀ wk, mt M D W b3 b5 m.toNat d.toNat wk = true) → ∃ n1, n ≤ n1 ∧ n1 ≤ n0 ∧ n1 ≤ n + 2922 ∧ On M D W b3 b5 n1 := by
    intro hw
    by_cases c29 : m = 2 ∧ d = 29
    · obtain ⟨rfl, rfl⟩ := c29
      obtain ⟨k, k1, k8, kl, kn⟩ := leap8 y
      have far := dby_far y (k - 1).toNat (fun j j1 j2 => kn j j1 (by omega))
      have ek : (((k - 1).toNat + 1 : Nat) : Int) = k := by omega
      rw [ek] at far
      have f := feb29 (y + k)
      have g := feb29 y
      have vk : Vld (y + k) 2 29 := ⟨by omega, by omega, by omega, by omega, by omega, by unfold dim; rw [if_pos rfl, kl]; omega⟩
      have up : dby (y + 1) ≤ dby (y + k) := dby_mono (by omega)
      by_cases k7 : k ≤ 7
      · exact ⟨num (y + k) 2 29, by omega, by omega, by omega, y + k, 2, 29, vk, rfl, hw _⟩
      · have k8' : k = 8 := by omega
        subst k8'
        have ly : lp y = 1 := by
          have z4 := kn 4 (by omega) (by omega)
          have z8 := kl
          unfold lp at z4 z8 ⊢
          split at z4
          · cases z4
          · split at z8
            · split
              · rfl
              · rename_i p q r
                exfalso
                omega
            · cases z8
        have vy : Vld y 2 29 := ⟨a1, a2, by omega, by omega, by omega, by unfold dim; rw [if_pos rfl, ly]; omega⟩
        by_cases cn : n ≤ num y 2 29
        · exact ⟨num y 2 29, cn, by omega, by omega, y, 2, 29, vy, rfl, hw _⟩
        · exact ⟨num (y + 8) 2 29, by omega, by omega, by omega, y + 8, 2, 29, vk, rfl, hw _⟩
    · have dl' : d ≤ dim (y + 1) m := by
        unfold dim at dl ⊢
        have q := lp_01 y0
        split at dl
        · rw [if_pos (by assumption)]; omega
        · rw [if_neg (by assumption)]; exact dl
      have v' : Vld (y + 1) m d := ⟨by omega, by omega, m1, m12, d1, dl'⟩
      have b := num_bd v'
      exact ⟨num (y + 1) m d, by omega, by omega, by omega, y + 1, m, d, v', rfl, hw _⟩
  have all : (∀ wk, (if b3 = true then (if b5 = true then true else W.testBit wk) else if b5 = true then D.testBit d.toNat else (D.testBit d.toNat || W.testBit wk)) = true) → ∀ wk, mt M D W b3 b5 m.toNat d.toNat wk = true := fun q wk => by
    unfold mt
    rw [tM, q wk]
    rfl
  cases h3 : b3 <;> cases h5 : b5 <;> simp only [h3, h5, Bool.false_eq_true, if_true, if_false, Bool.or_eq_true] at tD byW byD all ⊢
  · rcases tD with q | q
    · exact byD (all fun wk => .inl q)
    · exact byW q trivial
  · exact byD (all fun wk => tD)
  · exact byW tD trivial
  · exact byD (all fun wk => trivial)
/-- is a date ever matched? The first 28 years tell -/
theorem ever {M D W : Nat} {b3 b5 : Bool} : (∃ n, 0 ≤ n ∧ n ≤ 2932896 ∧ On M D W b3 b5 n) ↔ ∃ n, 0 ≤ n ∧ n < 10227 ∧ On M D W b3 b5 n := by
  constructor
  · rintro ⟨n, h0, h1, h⟩
    obtain ⟨n1, a, _, c, d⟩ := near (Int.le_refl 0) h0 h1 h
    exact ⟨n1, a, by omega, d⟩
  · rintro ⟨n, h0, h1, h⟩
    exact ⟨n, h0, by omega, h⟩
/-- which day it is, and which date: one and the same -/
theorem on_iff {M D W : Nat} {b3 b5 : Bool} {y m d : Int} (v : Vld y m d) : On M D W b3 b5 (num y m d) ↔ mt M D W b3 b5 m.toNat d.toNat ((num y m d + 4) % 7).toNat = true := by
  constructor
  · rintro ⟨y', m', d', v', e, t⟩
    obtain ⟨_, rfl, rfl⟩ := num_uniq v' v e
    exact t
  · exact fun t => ⟨y, m, d, v, rfl, t⟩
theorem on_range {M D W : Nat} {b3 b5 : Bool} {n : Int} (h : On M D W b3 b5 n) : 0 ≤ n ∧ n ≤ 2932896 := by
  obtain ⟨y, m, d, v, rfl, _⟩ := h
  exact num_range v

/-- is this second of a day matched: the sets Hour, Minute, Second -/
def clk (H I S : Nat) (s : Int) : Bool := H.testBit (s / 3600).toNat && (I.testBit (s / 60 % 60).toNat && S.testBit (s % 60).toNat)
/-- a second of a day of its hour, minute and second -/
theorem clk_at {H I S : Nat} {h i s : Nat} (hi : i < 60) (hs : s < 60) : clk H I S (3600 * h + 60 * i + s : Nat) = (H.testBit h && (I.testBit i && S.testBit s)) := by
  unfold clk
  have e1 : (((3600 * h + 60 * i + s : Nat) : Int) / 3600).toNat = h := by omega
  have e2 : (((3600 * h + 60 * i + s : Nat) : Int) / 60 % 60).toNat = i := by omega
  have e3 : (((3600 * h + 60 * i + s : Nat) : Int) % 60).toNat = s := by omega
  rw [e1, e2, e3]
/-- a local second, of 1970 to 9999, that is matched -/
def Lm (M D W : Nat) (b3 b5 : Bool) (H I S : Nat) (t : Int) : Prop := On M D W b3 b5 (t / 86400) ∧ clk H I S (t % 86400) = true
theorem lm_range {M D W : Nat} {b3 b5 : Bool} {H I S : Nat} {t : Int} (h : Lm M D W b3 b5 H I S t) : 0 ≤ t ∧ t ≤ 253402300799 := by
  have := on_range h.1
  omega
/-- the smallest number from a to b with a property, or none -/
def Least (P : Int → Prop) (a b : Int) (r : Option Int) : Prop := match r with
  | some x => a ≤ x ∧ x ≤ b ∧ P x ∧ ∀ y, a ≤ y → y < x → ¬ P y
  | none => ∀ y, a ≤ y → y ≤ b → ¬ P y
/-- the greatest one -/
def Most (P : Int → Prop) (a b : Int) (r : Option Int) : Prop := match r with
  | some x => a ≤ x ∧ x ≤ b ∧ P x ∧ ∀ y, x < y → y ≤ b → ¬ P y
  | none => ∀ y, a ≤ y → y ≤ b → ¬ P y
theorem Least.uniq {P : Int → Prop} {a b : Int} {r s : Option Int} (h : Least P a b r) (k : Least P a b s) : r = s := by
  cases r with
  | none =>
    cases s with
    | none => rfl
    | some y => exact absurd k.2.2.1 (h y k.1 k.2.1)
  | some x =>
    cases s with
    | none => exact absurd h.2.2.1 (k x h.1 h.2.1)
    | some y =>
      rcases Int.lt_trichotomy x y with l | l | l
      · exact absurd h.2.2.1 (k.2.2.2 x h.1 l)
      · rw [l]
      · exact absurd k.2.2.1 (h.2.2.2 y k.1 l)
theorem Most.uniq {P : Int → Prop} {a b : Int} {r s : Option Int} (h : Most P a b r) (k : Most P a b s) : r = s := by
  cases r with
  | none =>
    cases s with
    | none => rfl
    | some y => exact absurd k.2.2.1 (h y k.1 k.2.1)
  | some x =>
    cases s with
    | none => exact absurd h.2.2.1 (k x h.1 h.2.1)
    | some y =>
      rcases Int.lt_trichotomy x y with l | l | l
      · exact absurd k.2.2.1 (h.2.2.2 y l k.2.1)
      · rw [l]
      · exact absurd h.2.2.1 (k.2.2.2 x l h.2.1)
theorem least_ex (P : Int → Prop) (a b : Int) : ∃ r, Least P a b r := by
  have key : ∀ n : Nat, ∃ r, Least P a (a + n - 1) r := by
    intro n
    induction n with
    | zero => exact ⟨none, fun y h1 h2 => by omega⟩
    | succ n ih =>
      obtain ⟨r, h⟩ := ih
      cases r with
      | some x => exact ⟨some x, h.1, by have := h.2.1; omega, h.2.2⟩
      | none =>
        by_cases c : P (a + n)
        · exact ⟨some (a + n), by omega, by omega, c, fun y h1 h2 => h y h1 (by omega)⟩
        · refine ⟨none, fun y h1 h2 => ?_⟩
          by_cases e : y = a + n
          · rw [e]; exact c
          · exact h y h1 (by omega)
  by_cases c : a ≤ b
  · obtain ⟨r, h⟩ := key (b - a + 1).toNat
    have e : a + ((b - a + 1).toNat : Int) - 1 = b := by omega
    rw [e] at h
    exact ⟨r, h⟩
  · exact ⟨none, fun y h1 h2 => by omega⟩
/-- a span that begins later, or ends earlier -/
theorem Least.from {P : Int → Prop} {a c b : Int} {r : Option Int} (h : Least P c b r) (hac : a ≤ c) (no : ∀ y, a ≤ y → y < c → ¬ P y) : Least P a b r := by
  cases r with
  | none => exact fun y h1 h2 => if q : y < c then no y h1 q else h y (by omega) h2
  | some x => exact ⟨Int.le_trans hac h.1, h.2.1, h.2.2.1, fun y h1 h2 => if q : y < c then no y h1 q else h.2.2.2 y (by omega) h2⟩
theorem Most.upto {P : Int → Prop} {a c b : Int} {r : Option Int} (h : Most P a c r) (hcb : c ≤ b) (no : ∀ y, c < y → y ≤ b → ¬ P y) : Most P a b r := by
  cases r with
  | none => exact fun y h1 h2 => if q : c < y then no y q h2 else h y h1 (by omega)
  | some x => exact ⟨h.1, Int.le_trans h.2.1 hcb, h.2.2.1, fun y h1 h2 => if q : c < y then no y q h2 else h.2.2.2 y h1 (by omega)⟩
end Go.Proofs.YtljackjcgfaanaaGreatDoor.Mat
