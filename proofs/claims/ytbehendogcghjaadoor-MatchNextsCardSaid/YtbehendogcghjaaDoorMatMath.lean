/- Plain mathematics of the dates that an expression matches: within eight years of each day one is matched, if one is matched at all behind it. No program stands here. -/
import Derived.Test.YtbehendogcghjaaDoorCivMath
namespace Go.Proofs.YtbehendogcghjaaDoor.Mat
open Go.Proofs.YtbehendogcghjaaDoor.Civ

/-- does a date match: its month, its day, its day of the week; the sets Month, Day, Week, and whether Day and Week are stars -/
def mt (M D W : Nat) (b3 b5 : Bool) (m d wk : Nat) : Bool :=
  M.testBit m && (if b3 = true then (if b5 = true then true else W.testBit wk) else if b5 = true then D.testBit d else (D.testBit d || W.testBit wk))
/-- the day with this number matches -/
def On (M D W : Nat) (b3 b5 : Bool) (n : Int) : Prop := ∃ y m d : Int, Vld y m d ∧ num y m d = n ∧ mt M D W b3 b5 m.toNat d.toNat ((n + 4) % 7).toNat = true

/-- of eight years that follow one another one is a leap year -/
theorem leap8 (y : Int) : ∃ k : Int, 1 ≤ k ∧ k ≤ 8 ∧ lp (y + k) = 1 ∧ ∀ j : Int, 1 ≤ j → j < k → lp (y + j) = 0 := by
  have bit : ∀ z : Int, lp z = 0 ∨ lp z = 1 := fun z => by have := lp_01 z; omega
  have some1 : lp (y + 1) = 1 ∨ lp (y + 2) = 1 ∨ lp (y + 3) = 1 ∨ lp (y + 4) = 1 ∨ lp (y + 5) = 1 ∨ lp (y + 6) = 1 ∨ lp (y + 7) = 1 ∨ lp (y + 8) = 1 := by
    have l : ∀ z : Int, z % 4 = 0 ∧ z % 100 ≠ 0 → lp z = 1 := fun z h => by unfold lp; rw [if_pos (.inl h)]
    by_cases c : (y + 4 - (y + 4) % 4) % 100 = 0
    · have : ∃ k : Int, (k = 5 ∨ k = 6 ∨ k = 7 ∨ k = 8) ∧ (y + k) % 4 = 0 ∧ (y + k) % 100 ≠ 0 := ⟨8 - y % 4, by omega, by omega, by omega⟩
      obtain ⟨k, hk, h⟩ := this
      have := l _ h
      rcases hk with rfl | rfl | rfl | rfl
      · exact .inr (.inr (.inr (.inr (.inl this))))
      · exact .inr (.inr (.inr (.inr (.inr (.inl this)))))
      · exact .inr (.inr (.inr (.inr (.inr (.inr (.inl this))))))
      · exact .inr (.inr (.inr (.inr (.inr (.inr (.inr this))))))
    · have : ∃ k : Int, (k = 1 ∨ k = 2 ∨ k = 3 ∨ k = 4) ∧ (y + k) % 4 = 0 ∧ (y + k) % 100 ≠ 0 := ⟨4 - y % 4, by omega, by omega, by omega⟩
      obtain ⟨k, hk, h⟩ := this
      have := l _ h
      rcases hk with rfl | rfl | rfl | rfl
      · exact .inl this
      · exact .inr (.inl this)
      · exact .inr (.inr (.inl this))
      · exact .inr (.inr (.inr (.inl this)))
  have first : ∀ n : Nat, (∃ k : Int, 1 ≤ k ∧ k ≤ n ∧ lp (y + k) = 1) → ∃ k : Int, 1 ≤ k ∧ k ≤ n ∧ lp (y + k) = 1 ∧ ∀ j : Int, 1 ≤ j → j < k → lp (y + j) = 0 := by
    intro n
    induction n with
    | zero => rintro ⟨k, a, b, _⟩; omega
    | succ n ih =>
      rintro ⟨k, a, b, c⟩
      by_cases h : ∃ k : Int, 1 ≤ k ∧ k ≤ n ∧ lp (y + k) = 1
      · obtain ⟨q, q1, q2, q3, q4⟩ := ih h
        exact ⟨q, q1, by omega, q3, q4⟩
      · refine ⟨k, a, b, c, fun j j1 j2 => ?_⟩
        rcases bit (y + j) with e | e
        · exact e
        · exact absurd ⟨j, j1, by omega, e⟩ h
  have e8 : ∃ k : Int, 1 ≤ k ∧ k ≤ (8 : Nat) ∧ lp (y + k) = 1 := by
    rcases some1 with h | h | h | h | h | h | h | h
    · exact ⟨1, by omega, by omega, h⟩
    · exact ⟨2, by omega, by omega, h⟩
    · exact ⟨3, by omega, by omega, h⟩
    · exact ⟨4, by omega, by omega, h⟩
    · exact ⟨5, by omega, by omega, h⟩
    · exact ⟨6, by omega, by omega, h⟩
    · exact ⟨7, by omega, by omega, h⟩
    · exact ⟨8, by omega, by omega, h⟩
  obtain ⟨k, a, b, c, d⟩ := first 8 e8
  exact ⟨k, a, by omega, c, d⟩
/-- the first of January, some years on, with no leap year in between -/
theorem dby_far (y : Int) : ∀ k : Nat, (∀ j : Int, 1 ≤ j → j < k + 1 → lp (y + j) = 0) → dby (y + (k + 1 : Nat)) = dby y + 365 * (k + 1 : Nat) + lp y
  | 0, _ => by have := dby_succ y; simpa using this
  | k + 1, h => by
    have ih := dby_far y k (fun j a b => h j a (by omega))
    have z := h (k + 1 : Nat) (by omega) (by omega)
    have s := dby_succ (y + (k + 1 : Nat))
    have e : y + ((k + 1 : Nat) : Int) + 1 = y + ((k + 1 + 1 : Nat) : Int) := by omega
    rw [e] at s
    omega
theorem feb29 (y : Int) : num y 2 29 = dby y + 59 := by
  unfold num cum
  simp
  omega
theorem year_of {n : Int} (h0 : 0 ≤ n) (h1 : n ≤ 2932896) : ∃ y : Int, 1970 ≤ y ∧ y ≤ 9999 ∧ dby y ≤ n ∧ n < dby (y + 1) := by
  obtain ⟨y, m, d, v, e⟩ := date_ex n h0 h1
  have b := num_bd v
  have s := dby_succ y
  exact ⟨y, v.1, v.2.1, by omega, by omega⟩
/-- a day of the year behind, if that is not the last one -/
theorem next_year {y n n0 : Int} (hy : dby y ≤ n) (h0 : n + 2922 < n0) (h1 : n0 ≤ 2932896) : y + 8 ≤ 9999 := by
  have e := dby_end
  refine Classical.byContradiction fun c => ?_
  have m := dby_mono (show (9992 : Int) ≤ y by omega)
  have k : dby 9992 = 2929975 := by decide
  omega
/-- **one is matched within eight years**, if one is matched at all from this day on -/
theorem near {M D W : Nat} {b3 b5 : Bool} {n n0 : Int} (hn : 0 ≤ n) (hl : n ≤ n0) (hm : n0 ≤ 2932896) (h : On M D W b3 b5 n0) : ∃ n1, n ≤ n1 ∧ n1 ≤ n0 ∧ n1 ≤ n + 2922 ∧ On M D W b3 b5 n1 := by
  by_cases hc : n0 ≤ n + 2922
  · exact ⟨n0, hl, Int.le_refl _, hc, h⟩
  obtain ⟨y0, m, d, v, e, t⟩ := h
  obtain ⟨y, a1, a2, a3, a4⟩ := year_of hn (by omega)
  have y8 := next_year a3 (by omega) hm
  have s0 := dby_succ y
  have s1 := dby_succ (y + 1)
  have l0 := lp_01 y
  have l1 := lp_01 (y + 1)
  have e2 : y + 1 + 1 = y + 2 := by omega
  rw [e2] at s1
  obtain ⟨_, _, m1, m12, d1, dl⟩ := v
  unfold mt at t
  simp only [Bool.and_eq_true] at t
  obtain ⟨tM, tD⟩ := t
  -- the day of the week alone
  have byW : W.testBit ((n0 + 4) % 7).toNat = true → b5 = false → ∃ n1, n ≤ n1 ∧ n1 ≤ n0 ∧ n1 ≤ n + 2922 ∧ On M D W b3 b5 n1 := by
    intro hw h5
    obtain ⟨f, hf⟩ : ∃ f, num (y + 1) m 1 = f := ⟨_, rfl⟩
    obtain ⟨k, k0, k6, kw⟩ : ∃ k : Int, 0 ≤ k ∧ k ≤ 6 ∧ (f + k + 4) % 7 = (n0 + 4) % 7 := ⟨(n0 - f) % 7, by omega, by omega, by omega⟩
    have bd := dim_bd (y + 1) m
    have v' : Vld (y + 1) m (1 + k) := ⟨by omega, by omega, m1, m12, by omega, by omega⟩
    have ev : num (y + 1) m (1 + k) = f + k := by rw [← hf]; unfold num; omega
    have b := num_bd v'
    rw [ev] at b
    refine ⟨f + k, by omega, by omega, by omega, y + 1, m, 1 + k, v', ev, ?_⟩
    unfold mt
    rw [tM, kw, h5]
    cases b3 <;> simp [hw]
  -- the day of the month
  have byD : (∀ wk, mt M D W b3 b5 m.toNat d.toNat wk = true) → ∃ n1, n ≤ n1 ∧ n1 ≤ n0 ∧ n1 ≤ n + 2922 ∧ On M D W b3 b5 n1 := by
    intro hw
    by_cases c29 : m = 2 ∧ d = 29
    · obtain ⟨rfl, rfl⟩ := c29
      obtain ⟨k, k1, k8, kl, kn⟩ := leap8 y
      have far := dby_far y (k - 1).toNat (fun j j1 j2 => kn j j1 (by omega))
      have ek : (((k - 1).toNat + 1 : Nat) : Int) = k := by omega
      rw [ek] at far
      have f := feb29 (y + k)
      have g := feb29 y
      have vk : Vld (y + k) 2 29 := ⟨by omega, by omega, by omega, by omega, by omega, by unfold dim; rw [if_pos rfl, kl]; omega⟩
      have up : dby (y + 1) ≤ dby (y + k) := dby_mono (by omega)
      by_cases k7 : k ≤ 7
      · exact ⟨num (y + k) 2 29, by omega, by omega, by omega, y + k, 2, 29, vk, rfl, hw _⟩
      · have k8' : k = 8 := by omega
        subst k8'
        have ly : lp y = 1 := by
          have z4 := kn 4 (by omega) (by omega)
          have z8 := kl
          unfold lp at z4 z8 ⊢
          split at z4
          · cases z4
          · split at z8
            · split
              · rfl
              · rename_i p q r
                exfalso
                omega
            · cases z8
        have vy : Vld y 2 29 := ⟨a1, a2, by omega, by omega, by omega, by unfold dim; rw [if_pos rfl, ly]; omega⟩
        by_cases cn : n ≤ num y 2 29
        · exact ⟨num y 2 29, cn, by omega, by omega, y, 2, 29, vy, rfl, hw _⟩
        · exact ⟨num (y + 8) 2 29, by omega, by omega, by omega, y + 8, 2, 29, vk, rfl, hw _⟩
    · have dl' : d ≤ dim (y + 1) m := by
        unfold dim at dl ⊢
        have q := lp_01 y0
        split at dl
        · rw [if_pos (by assumption)]; omega
        · rw [if_neg (by assumption)]; exact dl
      have v' : Vld (y + 1) m d := ⟨by omega, by omega, m1, m12, d1, dl'⟩
      have b := num_bd v'
      exact ⟨num (y + 1) m d, by omega, by omega, by omega, y + 1, m, d, v', rfl, hw _⟩
  have all : (∀ wk, (if b3 = true then (if b5 = true then true else W.testBit wk) else if b5 = true then D.testBit d.toNat else (D.testBit d.toNat || W.testBit wk)) = true) → ∀ wk, mt M D W b3 b5 m.toNat d.toNat wk = true := fun q wk => by
    unfold mt
    rw [tM, q wk]
    rfl
  cases h3 : b3 <;> cases h5 : b5 <;> simp only [h3, h5, Bool.false_eq_true, if_true, if_false, Bool.or_eq_true] at tD byW byD all ⊢
  · rcases tD with q | q
    · exact byD (all fun wk => .inl q)
    · exact byW q trivial
  · exact byD (all fun wk => tD)
  · exact byW tD trivial
  · exact byD (all fun wk => trivial)
/-- of the eight years ahead of one the last leap year -/
theorem leap8_back (y : Int) : ∃ k : Int, 1 ≤ k ∧ k ≤ 8 ∧ lp (y - k) = 1 ∧ ∀ j : Int, 1 ≤ j → j < k → lp (y - j) = 0 := by
  have bit : ∀ z : Int, lp z = 0 ∨ lp z = 1 := fun z => by have := lp_01 z; omega
  have e8 : ∃ k : Int, 1 ≤ k ∧ k ≤ (8 : Nat) ∧ lp (y - k) = 1 := by
    obtain ⟨k, a, b, c, _⟩ := leap8 (y - 9)
    exact ⟨9 - k, by omega, by omega, by rw [show y - (9 - k) = y - 9 + k by omega]; exact c⟩
  have first : ∀ n : Nat, (∃ k : Int, 1 ≤ k ∧ k ≤ n ∧ lp (y - k) = 1) → ∃ k : Int, 1 ≤ k ∧ k ≤ n ∧ lp (y - k) = 1 ∧ ∀ j : Int, 1 ≤ j → j < k → lp (y - j) = 0 := by
    intro n
    induction n with
    | zero => rintro ⟨k, a, b, _⟩; omega
    | succ n ih =>
      rintro ⟨k, a, b, c⟩
      by_cases h : ∃ k : Int, 1 ≤ k ∧ k ≤ n ∧ lp (y - k) = 1
      · obtain ⟨q, q1, q2, q3, q4⟩ := ih h
        exact ⟨q, q1, by omega, q3, q4⟩
      · refine ⟨k, a, b, c, fun j j1 j2 => ?_⟩
        rcases bit (y - j) with e | e
        · exact e
        · exact absurd ⟨j, j1, by omega, e⟩ h
  obtain ⟨k, a, b, c, d⟩ := first 8 e8
  exact ⟨k, a, by omega, c, d⟩
theorem prev_year {y n n0 : Int} (h : n < dby (y + 1)) (h0 : n0 < n - 2922) (h1 : 0 ≤ n0) : 1978 ≤ y := by
  refine Classical.byContradiction fun c => ?_
  have m := dby_mono (show y + 1 ≤ (1978 : Int) by omega)
  have k : dby 1978 = 2922 := by decide
  omega
/-- **.. and within the eight years before**, if one is matched at all up to this day -/
theorem near_back {M D W : Nat} {b3 b5 : Bool} {n n0 : Int} (hn : n ≤ 2932896) (hl : n0 ≤ n) (h : On M D W b3 b5 n0) : ∃ n1, n0 ≤ n1 ∧ n1 ≤ n ∧ n - 2922 ≤ n1 ∧ On M D W b3 b5 n1 := by
  by_cases hc : n - 2922 ≤ n0
  · exact ⟨n0, Int.le_refl _, hl, hc, h⟩
  obtain ⟨y0, m, d, v, e, t⟩ := h
  have r0 := num_range v
  obtain ⟨y, a1, a2, a3, a4⟩ := year_of (show 0 ≤ n by omega) hn
  have y8 := prev_year a4 (show n0 < n - 2922 by omega) (by omega)
  have s0 := dby_succ y
  have s1 := dby_succ (y - 1)
  have l0 := lp_01 y
  have l1 := lp_01 (y - 1)
  have e2 : y - 1 + 1 = y := by omega
  rw [e2] at s1
  obtain ⟨_, _, m1, m12, d1, dl⟩ := v
  unfold mt at t
  simp only [Bool.and_eq_true] at t
  obtain ⟨tM, tD⟩ := t
  have byW : W.testBit ((n0 + 4) % 7).toNat = true → b5 = false → ∃ n1, n0 ≤ n1 ∧ n1 ≤ n ∧ n - 2922 ≤ n1 ∧ On M D W b3 b5 n1 := by
    intro hw h5
    obtain ⟨f, hf⟩ : ∃ f, num (y - 1) m 1 = f := ⟨_, rfl⟩
    obtain ⟨k, k0, k6, kw⟩ : ∃ k : Int, 0 ≤ k ∧ k ≤ 6 ∧ (f + k + 4) % 7 = (n0 + 4) % 7 := ⟨(n0 - f) % 7, by omega, by omega, by omega⟩
    have bd := dim_bd (y - 1) m
    have v' : Vld (y - 1) m (1 + k) := ⟨by omega, by omega, m1, m12, by omega, by omega⟩
    have ev : num (y - 1) m (1 + k) = f + k := by rw [← hf]; unfold num; omega
    have b := num_bd v'
    rw [ev] at b
    refine ⟨f + k, by omega, by omega, by omega, y - 1, m, 1 + k, v', ev, ?_⟩
    unfold mt
    rw [tM, kw, h5]
    cases b3 <;> simp [hw]
  have byD : (∀ wk, mt M D W b3 b5 m.toNat d.toNat wk = true) → ∃ n1, n0 ≤ n1 ∧ n1 ≤ n ∧ n - 2922 ≤ n1 ∧ On M D W b3 b5 n1 := by
    intro hw
    by_cases c29 : m = 2 ∧ d = 29
    · obtain ⟨rfl, rfl⟩ := c29
      obtain ⟨k, k1, k8, kl, kn⟩ := leap8_back y
      have far := dby_far (y - k) (k - 1).toNat (fun j j1 j2 => by
        have := kn (k - j) (by omega) (by omega)
        rwa [show y - (k - j) = y - k + j by omega] at this)
      have ek : (((k - 1).toNat + 1 : Nat) : Int) = k := by omega
      rw [ek, show y - k + k = y by omega, kl] at far
      have f := feb29 (y - k)
      have g := feb29 y
      have vk : Vld (y - k) 2 29 := ⟨by omega, by omega, by omega, by omega, by omega, by unfold dim; rw [if_pos rfl, kl]; omega⟩
      by_cases k7 : k ≤ 7
      · exact ⟨num (y - k) 2 29, by omega, by omega, by omega, y - k, 2, 29, vk, rfl, hw _⟩
      · have k8' : k = 8 := by omega
        subst k8'
        have ly : lp y = 1 := by
          have z4 := kn 4 (by omega) (by omega)
          have z8 := kl
          unfold lp at z4 z8 ⊢
          split at z4
          · cases z4
          · split at z8
            · split
              · rfl
              · exfalso
                omega
            · cases z8
        have vy : Vld y 2 29 := ⟨a1, a2, by omega, by omega, by omega, by unfold dim; rw [if_pos rfl, ly]; omega⟩
        by_cases cn : num y 2 29 ≤ n
        · exact ⟨num y 2 29, by omega, cn, by omega, y, 2, 29, vy, rfl, hw _⟩
        · exact ⟨num (y - 8) 2 29, by omega, by omega, by omega, y - 8, 2, 29, vk, rfl, hw _⟩
    · have dl' : d ≤ dim (y - 1) m := by
        unfold dim at dl ⊢
        have q := lp_01 y0
        split at dl
        · rw [if_pos (by assumption)]; omega
        · rw [if_neg (by assumption)]; exact dl
      have v' : Vld (y - 1) m d := ⟨by omega, by omega, m1, m12, d1, dl'⟩
      have b := num_bd v'
      exact ⟨num (y - 1) m d, by omega, by omega, by omega, y - 1, m, d, v', rfl, hw _⟩
  have all : (∀ wk, (if b3 = true then (if b5 = true then true else W.testBit wk) else if b5 = true then D.testBit d.toNat else (D.testBit d.toNat || W.testBit wk)) = true) → ∀ wk, mt M D W b3 b5 m.toNat d.toNat wk = true := fun q wk => by
    unfold mt
    rw [tM, q wk]
    rfl
  cases h3 : b3 <;> cases h5 : b5 <;> simp only [h3, h5, Bool.false_eq_true, if_true, if_false, Bool.or_eq_true] at tD byW byD all ⊢
  · rcases tD with q | q
    · exact byD (all fun wk => .inl q)
    · exact byW q trivial
  · exact byD (all fun wk => tD)
  · exact byW tD trivial
  · exact byD (all fun wk => trivial)
/-- is a date ever matched? The first 28 years tell -/
theorem ever {M D W : Nat} {b3 b5 : Bool} : (∃ n, 0 ≤ n ∧ n ≤ 2932896 ∧ On M D W b3 b5 n) ↔ ∃ n, 0 ≤ n ∧ n < 10227 ∧ On M D W b3 b5 n := by
  constructor
  · rintro ⟨n, h0, h1, h⟩
    obtain ⟨n1, a, _, c, d⟩ := near (Int.le_refl 0) h0 h1 h
    exact ⟨n1, a, by omega, d⟩
  · rintro ⟨n, h0, h1, h⟩
    exact ⟨n, h0, by omega, h⟩
/-- which day it is, and which date: one and the same -/
theorem on_iff {M D W : Nat} {b3 b5 : Bool} {y m d : Int} (v : Vld y m d) : On M D W b3 b5 (num y m d) ↔ mt M D W b3 b5 m.toNat d.toNat ((num y m d + 4) % 7).toNat = true := by
  constructor
  · rintro ⟨y', m', d', v', e, t⟩
    obtain ⟨_, rfl, rfl⟩ := num_uniq v' v e
    exact t
  · exact fun t => ⟨y, m, d, v, rfl, t⟩
theorem on_range {M D W : Nat} {b3 b5 : Bool} {n : Int} (h : On M D W b3 b5 n) : 0 ≤ n ∧ n ≤ 2932896 := by
  obtain ⟨y, m, d, v, rfl, _⟩ := h
  exact num_range v

/-! seconds of a day, and times -/
/-- is this second of a day matched: the sets Hour, Minute, Second -/
def clk (H I S : Nat) (s : Int) : Bool := H.testBit (s / 3600).toNat && (I.testBit (s / 60 % 60).toNat && S.testBit (s % 60).toNat)
/-- a second of a day of its hour, minute and second -/
theorem clk_at {H I S : Nat} {h i s : Nat} (hi : i < 60) (hs : s < 60) : clk H I S (3600 * h + 60 * i + s : Nat) = (H.testBit h && (I.testBit i && S.testBit s)) := by
  unfold clk
  have e1 : (((3600 * h + 60 * i + s : Nat) : Int) / 3600).toNat = h := by omega
  have e2 : (((3600 * h + 60 * i + s : Nat) : Int) / 60 % 60).toNat = i := by omega
  have e3 : (((3600 * h + 60 * i + s : Nat) : Int) % 60).toNat = s := by omega
  rw [e1, e2, e3]
/-- on a day that matches there is a second that does -/
theorem clk_some {H I S : Nat} {h i s : Nat} (h1 : h < 24) (hi : i < 60) (hs : s < 60) (eh : H.testBit h = true) (ei : I.testBit i = true) (es : S.testBit s = true) : ∃ t : Int, 0 ≤ t ∧ t < 86400 ∧ clk H I S t = true :=
  ⟨(3600 * h + 60 * i + s : Nat), by omega, by omega, by rw [clk_at hi hs, eh, ei, es]; rfl⟩
/-- a local second, of 1970 to 9999, that is matched -/
def Lm (M D W : Nat) (b3 b5 : Bool) (H I S : Nat) (t : Int) : Prop := On M D W b3 b5 (t / 86400) ∧ clk H I S (t % 86400) = true
theorem lm_range {M D W : Nat} {b3 b5 : Bool} {H I S : Nat} {t : Int} (h : Lm M D W b3 b5 H I S t) : 0 ≤ t ∧ t ≤ 253402300799 := by
  have := on_range h.1
  omega
/-- a time that is matched at a zone that is z seconds ahead -/
def Tm (M D W : Nat) (b3 b5 : Bool) (H I S : Nat) (z t : Int) : Prop := Lm M D W b3 b5 H I S (t + z)
/-- the smallest number from a to b with a property, or none -/
def Least (P : Int → Prop) (a b : Int) (r : Option Int) : Prop := match r with
  | some x => a ≤ x ∧ x ≤ b ∧ P x ∧ ∀ y, a ≤ y → y < x → ¬ P y
  | none => ∀ y, a ≤ y → y ≤ b → ¬ P y
/-- the greatest one -/
def Most (P : Int → Prop) (a b : Int) (r : Option Int) : Prop := match r with
  | some x => a ≤ x ∧ x ≤ b ∧ P x ∧ ∀ y, x < y → y ≤ b → ¬ P y
  | none => ∀ y, a ≤ y → y ≤ b → ¬ P y
theorem Least.uniq {P : Int → Prop} {a b : Int} {r s : Option Int} (h : Least P a b r) (k : Least P a b s) : r = s := by
  cases r with
  | none =>
    cases s with
    | none => rfl
    | some y => exact absurd k.2.2.1 (h y k.1 k.2.1)
  | some x =>
    cases s with
    | none => exact absurd h.2.2.1 (k x h.1 h.2.1)
    | some y =>
      rcases Int.lt_trichotomy x y with l | l | l
      · exact absurd h.2.2.1 (k.2.2.2 x h.1 l)
      · rw [l]
      · exact absurd k.2.2.1 (h.2.2.2 y k.1 l)
theorem Most.uniq {P : Int → Prop} {a b : Int} {r s : Option Int} (h : Most P a b r) (k : Most P a b s) : r = s := by
  cases r with
  | none =>
    cases s with
    | none => rfl
    | some y => exact absurd k.2.2.1 (h y k.1 k.2.1)
  | some x =>
    cases s with
    | none => exact absurd h.2.2.1 (k x h.1 h.2.1)
    | some y =>
      rcases Int.lt_trichotomy x y with l | l | l
      · exact absurd k.2.2.1 (h.2.2.2 y l k.2.1)
      · rw [l]
      · exact absurd h.2.2.1 (k.2.2.2 x l h.2.1)
theorem least_ex (P : Int → Prop) (a b : Int) : ∃ r, Least P a b r := by
  have key : ∀ n : Nat, ∃ r, Least P a (a + n - 1) r := by
    intro n
    induction n with
    | zero => exact ⟨none, fun y h1 h2 => by omega⟩
    | succ n ih =>
      obtain ⟨r, h⟩ := ih
      cases r with
      | some x => exact ⟨some x, h.1, by have := h.2.1; omega, h.2.2⟩
      | none =>
        by_cases c : P (a + n)
        · exact ⟨some (a + n), by omega, by omega, c, fun y h1 h2 => h y h1 (by omega)⟩
        · refine ⟨none, fun y h1 h2 => ?_⟩
          by_cases e : y = a + n
          · rw [e]; exact c
          · exact h y h1 (by omega)
  by_cases c : a ≤ b
  · obtain ⟨r, h⟩ := key (b - a + 1).toNat
    have e : a + ((b - a + 1).toNat : Int) - 1 = b := by omega
    rw [e] at h
    exact ⟨r, h⟩
  · exact ⟨none, fun y h1 h2 => by omega⟩
theorem most_ex (P : Int → Prop) (a b : Int) : ∃ r, Most P a b r := by
  obtain ⟨r, h⟩ := least_ex (fun t => P (-t)) (-b) (-a)
  cases r with
  | none => exact ⟨none, fun y h1 h2 q => h (-y) (by omega) (by omega) (by simpa using q)⟩
  | some x => exact ⟨some (-x), by have := h.2.1; omega, by have := h.1; omega, h.2.2.1, fun y h1 h2 q => h.2.2.2 (-y) (by omega) (by omega) (by simpa using q)⟩
/-- a span that begins later, or ends earlier -/
theorem Least.from {P : Int → Prop} {a c b : Int} {r : Option Int} (h : Least P c b r) (hac : a ≤ c) (no : ∀ y, a ≤ y → y < c → ¬ P y) : Least P a b r := by
  cases r with
  | none => exact fun y h1 h2 => if q : y < c then no y h1 q else h y (by omega) h2
  | some x => exact ⟨Int.le_trans hac h.1, h.2.1, h.2.2.1, fun y h1 h2 => if q : y < c then no y h1 q else h.2.2.2 y (by omega) h2⟩
theorem Most.upto {P : Int → Prop} {a c b : Int} {r : Option Int} (h : Most P a c r) (hcb : c ≤ b) (no : ∀ y, c < y → y ≤ b → ¬ P y) : Most P a b r := by
  cases r with
  | none => exact fun y h1 h2 => if q : c < y then no y q h2 else h y h1 (by omega)
  | some x => exact ⟨h.1, Int.le_trans h.2.1 hcb, h.2.2.1, fun y h1 h2 => if q : c < y then no y q h2 else h.2.2.2 y h1 (by omega)⟩
end Go.Proofs.YtbehendogcghjaaDoor.Mat
