/- Plain facts on what two schedules share: divisors, rests, products modulo a number by doubling. No program stands here. -/
import Derived.Test.YtnajpgkahnjabaaEveMath
namespace Go.Proofs.Ytnajpgkahnjabaa.Ev

/-- Euclid's algorithm: the greatest common divisor, and how it is made of both numbers -/
def eu (a b : Nat) : Nat × Int × Int :=
  if _h : b = 0 then (a, 1, 0) else ((eu b (a % b)).1, (eu b (a % b)).2.2, (eu b (a % b)).2.1 - ((a / b : Nat) : Int) * (eu b (a % b)).2.2)
termination_by b
decreasing_by exact Nat.mod_lt _ (by omega)
theorem eu_zero (a : Nat) : eu a 0 = (a, 1, 0) := by rw [eu, dif_pos rfl]
theorem eu_step {a b : Nat} (h : 0 < b) : eu a b = ((eu b (a % b)).1, (eu b (a % b)).2.2, (eu b (a % b)).2.1 - ((a / b : Nat) : Int) * (eu b (a % b)).2.2) := by
  rw [eu, dif_neg (by omega)]
theorem eu_is : ∀ (d a b : Nat), b ≤ d → (a : Int) * (eu a b).2.1 + (b : Int) * (eu a b).2.2 = ((eu a b).1 : Int) ∧ (eu a b).1 ∣ a ∧ (eu a b).1 ∣ b := by
  intro d
  induction d with
  | zero =>
    intro a b hb
    obtain rfl : b = 0 := by omega
    rw [eu_zero]
    simp
  | succ d ih =>
    intro a b hb
    by_cases z : b = 0
    · subst z; rw [eu_zero]; simp
    · have hb0 : 0 < b := by omega
      have hm := Nat.mod_lt a hb0
      obtain ⟨h1, h2, h3⟩ := ih b (a % b) (by omega)
      rw [eu_step hb0]
      obtain ⟨g, hg⟩ : ∃ g, (eu b (a % b)).1 = g := ⟨_, rfl⟩
      obtain ⟨x, hx⟩ : ∃ x, (eu b (a % b)).2.1 = x := ⟨_, rfl⟩
      obtain ⟨y, hy⟩ : ∃ y, (eu b (a % b)).2.2 = y := ⟨_, rfl⟩
      rw [hg, hx, hy] at h1
      rw [hg] at h2 h3
      simp only [hg, hx, hy]
      refine ⟨?_, ?_, h2⟩
      · have e : (a : Int) = (b : Int) * ((a / b : Nat) : Int) + ((a % b : Nat) : Int) := by
          have := Nat.div_add_mod a b
          exact_mod_cast this.symm
        rw [Int.mul_sub, ← Int.mul_assoc]
        rw [show (a : Int) * y = ((b : Int) * ((a / b : Nat) : Int)) * y + ((a % b : Nat) : Int) * y by rw [← Int.add_mul, ← e]]
        omega
      · exact (Nat.dvd_mod_iff h2).1 h3
theorem eu_pos : ∀ (d a b : Nat), b ≤ d → 0 < a → 0 < (eu a b).1 := by
  intro d a b hb ha
  have h := (eu_is d a b hb).2.1
  exact Nat.pos_of_dvd_of_pos h ha
theorem eu_bound : ∀ (d a b : Nat), b ≤ d → 0 < a → (- (max 1 b : Nat) : Int) ≤ (eu a b).2.1 ∧ (eu a b).2.1 ≤ (max 1 b : Nat) ∧ (- (a : Nat) : Int) ≤ (eu a b).2.2 ∧ (eu a b).2.2 ≤ (a : Nat) := by
  intro d
  induction d with
  | zero =>
    intro a b hb ha
    obtain rfl : b = 0 := by omega
    rw [eu_zero]
    simp only
    omega
  | succ d ih =>
    intro a b hb ha
    by_cases z : b = 0
    · subst z; rw [eu_zero]; simp only; omega
    · have hb0 : 0 < b := by omega
      have hm := Nat.mod_lt a hb0
      obtain ⟨h1, h2, h3, h4⟩ := ih b (a % b) (by omega) hb0
      have hz : a % b = 0 → (eu b (a % b)).2.1 = 1 ∧ (eu b (a % b)).2.2 = 0 := fun e => by rw [e, eu_zero]; exact ⟨rfl, rfl⟩
      rw [eu_step hb0]
      obtain ⟨x, hx⟩ : ∃ x, (eu b (a % b)).2.1 = x := ⟨_, rfl⟩
      obtain ⟨y, hy⟩ : ∃ y, (eu b (a % b)).2.2 = y := ⟨_, rfl⟩
      rw [hx] at h1 h2
      rw [hy] at h3 h4
      rw [hx, hy] at hz
      simp only [hx, hy]
      have e : (a : Int) = ((a / b : Nat) : Int) * (b : Int) + ((a % b : Nat) : Int) := by
        have := Nat.div_add_mod a b
        rw [Nat.mul_comm] at this
        exact_mod_cast this.symm
      have q0 : (0 : Int) ≤ ((a / b : Nat) : Int) := Int.natCast_nonneg _
      have u1 := Int.mul_le_mul_of_nonneg_left h4 q0
      have u2 := Int.mul_le_mul_of_nonneg_left h3 q0
      rw [Int.mul_neg] at u2
      by_cases r : a % b = 0
      · obtain ⟨rfl, rfl⟩ := hz r
        simp only [Int.mul_zero]
        omega
      · omega

/-- what is divided by two numbers is divided by their smallest common multiple -/
theorem lcm_dvd {g α β x y z : Int} (h : α * x + β * y = 1) (h1 : g * α ∣ z) (h2 : g * β ∣ z) : g * α * β ∣ z := by
  obtain ⟨k, hk⟩ := h1
  obtain ⟨l, hl⟩ := h2
  refine ⟨l * x + k * y, ?_⟩
  have e1 : z * (α * x) = g * α * β * (l * x) := by rw [hl]; simp only [Int.mul_comm, Int.mul_left_comm]
  have e2 : z * (β * y) = g * α * β * (k * y) := by rw [hk]; simp only [Int.mul_comm, Int.mul_left_comm]
  rw [Int.mul_add, ← e1, ← e2, ← Int.mul_add, h, Int.mul_one]
/-- Congruent -/
def Cg (m a b : Int) : Prop := m ∣ a - b
theorem Cg.refl (m a : Int) : Cg m a a := by unfold Cg; simp
theorem Cg.symm {m a b : Int} (h : Cg m a b) : Cg m b a := by
  unfold Cg at *
  rw [show b - a = -(a - b) by omega]
  exact (Int.dvd_neg).2 h
theorem Cg.trans {m a b c : Int} (h : Cg m a b) (k : Cg m b c) : Cg m a c := by
  unfold Cg at *
  rw [show a - c = (a - b) + (b - c) by omega]
  exact Int.dvd_add h k
theorem Cg.add {m a b c d : Int} (h : Cg m a b) (k : Cg m c d) : Cg m (a + c) (b + d) := by
  unfold Cg at *
  rw [show a + c - (b + d) = (a - b) + (c - d) by omega]
  exact Int.dvd_add h k
theorem Cg.mul {m a b : Int} (h : Cg m a b) (c : Int) : Cg m (a * c) (b * c) := by
  unfold Cg at *
  rw [← Int.sub_mul]
  exact Int.dvd_trans h (Int.dvd_mul_right _ _)
theorem Cg.mulL {m a b : Int} (h : Cg m a b) (c : Int) : Cg m (c * a) (c * b) := by rw [Int.mul_comm c a, Int.mul_comm c b]; exact h.mul c
theorem Cg.mod (m a : Int) : Cg m (a % m) a := by
  unfold Cg
  refine ⟨-(a / m), ?_⟩
  have := Int.mul_ediv_add_emod a m
  rw [Int.mul_neg]
  omega
theorem Cg.eq {m a b : Int} (h : Cg m a b) (a0 : 0 ≤ a) (a1 : a < m) (b0 : 0 ≤ b) (b1 : b < m) : a = b := by
  obtain ⟨k, hk⟩ := h
  have hm : 0 < m := by omega
  have k1 : ¬ 1 ≤ k := fun q => by
    have := Int.mul_le_mul_of_nonneg_left q (show 0 ≤ m by omega)
    omega
  have k2 : ¬ k ≤ -1 := fun q => by
    have := Int.mul_le_mul_of_nonneg_left q (show 0 ≤ m by omega)
    omega
  obtain rfl : k = 0 := by omega
  omega
theorem Cg.emod {m a b : Int} (h : Cg m a b) (hm : 0 < m) : a % m = b % m :=
  Cg.eq (((Cg.mod m a).trans h).trans (Cg.mod m b).symm) (Int.emod_nonneg _ (by omega)) (Int.emod_lt_of_pos _ hm) (Int.emod_nonneg _ (by omega)) (Int.emod_lt_of_pos _ hm)
theorem Cg.zero {m a : Int} : Cg m a 0 ↔ m ∣ a := by unfold Cg; rw [Int.sub_zero]
/-- one round of a product by doubling -/
theorem dbl_one {m a b out : Int} (h : b % 2 = 1) : Cg m ((out + a) % m + (2 * a % m) * (b / 2)) (out + a * b) := by
  have e : out + a * b = (out + a) + (2 * a) * (b / 2) := by
    have : b = 2 * (b / 2) + 1 := by omega
    obtain ⟨k, hk⟩ : ∃ k, b / 2 = k := ⟨_, rfl⟩
    rw [hk] at this ⊢
    rw [this, Int.mul_add, Int.mul_one, ← Int.mul_assoc, Int.mul_comm a 2]
    omega
  rw [e]
  exact (Cg.mod m _).add ((Cg.mod m _).mul _)
theorem dbl_zero {m a b out : Int} (h : b % 2 = 0) : Cg m (out + (2 * a % m) * (b / 2)) (out + a * b) := by
  have e : out + a * b = out + (2 * a) * (b / 2) := by
    have : b = 2 * (b / 2) := by omega
    obtain ⟨k, hk⟩ : ∃ k, b / 2 = k := ⟨_, rfl⟩
    rw [hk] at this ⊢
    rw [this, ← Int.mul_assoc, Int.mul_comm a 2]
  rw [e]
  exact (Cg.refl m _).add ((Cg.mod m _).mul _)

/-- which steps x of the one schedule lead to the rests of the other one -/
structure Steps (s p s' p' g m X : Int) : Prop where
  g0 : 0 < g
  m0 : 0 < m
  ge : g * m = p'
  x0 : 0 ≤ X
  x1 : X < m
  yes : ∀ x, Cg p' (s + x * p) s' ↔ Cg m x X
theorem steps_any {s p s' p' g α m d e x y X : Int} (g0 : 0 < g) (m0 : 0 < m) (hp : p = g * α) (hm : p' = g * m) (hb : α * x + m * y = 1) (hd : Cg p' d (s' - s)) (he : d = g * e)
    (x0 : 0 ≤ X) (x1 : X < m) (hX : Cg m X (e * x)) : Steps s p s' p' g m X := by
  refine ⟨g0, m0, hm.symm, x0, x1, fun z => ?_⟩
  have bz : Cg m (α * x) 1 := ⟨-y, by rw [Int.mul_neg]; omega⟩
  -- s + z p = s' modulo p' is z α = e modulo m
  have a1 : Cg p' (s + z * p) s' ↔ Cg p' (z * p) d := by
    constructor
    · intro h
      refine Cg.trans ?_ hd.symm
      have := h.add (Cg.refl p' (-s))
      rw [show s + z * p + -s = z * p by omega, show s' + -s = s' - s by omega] at this
      exact this
    · intro h
      have := (h.trans hd).add (Cg.refl p' s)
      rw [show z * p + s = s + z * p by omega, show s' - s + s = s' by omega] at this
      exact this
  have a2 : Cg p' (z * p) d ↔ Cg m (z * α) e := by
    unfold Cg
    rw [hp, hm, he, show z * (g * α) - g * e = g * (z * α - e) by rw [Int.mul_sub]; simp only [Int.mul_comm, Int.mul_left_comm]]
    exact Int.mul_dvd_mul_iff_left (by omega)
  rw [a1, a2]
  constructor
  · intro h
    have h2 := h.mul x
    have h3 : Cg m (z * α * x) z := by
      have := bz.mulL z
      rw [Int.mul_one, ← Int.mul_assoc] at this
      exact this
    exact (h3.symm.trans h2).trans hX.symm
  · intro h
    have h2 := (h.trans hX).mul α
    refine h2.trans ?_
    have := bz.mulL e
    rw [Int.mul_one] at this
    rw [Int.mul_assoc, Int.mul_comm x α]
    exact this
/-- no step leads there -/
theorem steps_none {s p s' p' g α m d : Int} (hp : p = g * α) (hm : p' = g * m) (hd : Cg p' d (s' - s)) (hn : ¬ g ∣ d) (x : Int) : ¬ Cg p' (s + x * p) s' := by
  intro h
  apply hn
  have h1 : Cg g (s + x * p) s' := Int.dvd_trans ⟨m, hm⟩ h
  have h2 : Cg g d (s' - s) := Int.dvd_trans ⟨m, hm⟩ hd
  have h3 : Cg g (x * p) 0 := by
    rw [Cg.zero, hp]
    exact ⟨x * α, by simp only [Int.mul_comm, Int.mul_left_comm]⟩
  have h4 : Cg g (s' - s) 0 := by
    have := (h1.symm.add (Cg.refl g (-s)))
    rw [show s' + -s = s' - s by omega, show s + x * p + -s = x * p by omega] at this
    exact this.trans h3
  exact Cg.zero.1 (h2.trans h4)
end Go.Proofs.Ytnajpgkahnjabaa.Ev
