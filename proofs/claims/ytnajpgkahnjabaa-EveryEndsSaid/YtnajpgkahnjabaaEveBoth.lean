/- Plain facts: the first time that two schedules share; shifted schedules; the ends. No program stands here. -/
import Derived.Test.YtnajpgkahnjabaaEveMeet
namespace Go.Proofs.Ytnajpgkahnjabaa.Ev

theorem on_iff2 {s p c : Int} (h : Ok s p c) (t : Int) : On s p c t ↔ ∃ n, 0 ≤ n ∧ t = s + n * p ∧ t ≤ 253402300799 ∧ (0 < c → n < c) := by
  rw [on_iff h]
  constructor
  · rintro ⟨n, h0, h1, rfl⟩
    have := (num_iff h n).1 h1
    exact ⟨n, h0, rfl, this.1, this.2⟩
  · rintro ⟨n, h0, rfl, h2, h3⟩
    exact ⟨n, h0, (num_iff h n).2 ⟨h2, h3⟩, rfl⟩
/-- an earlier time with the same rest is one too -/
theorem on_less {s p c n k : Int} (h : Ok s p c) (o : On s p c (s + n * p)) (k0 : 0 ≤ k) (hk : k ≤ n) : On s p c (s + k * p) := by
  obtain ⟨m, h0, h1, e⟩ := (on_iff h _).1 o
  have hp := h.p0
  have a := (at_le (s := s) (a := n) (b := m) hp).1 (by omega)
  exact on_at h k0 (by omega)
theorem on_shift {s p c d : Int} (h : Ok s p c) (k : Ok (s + d) p c) (d0 : 0 ≤ d) (t : Int) : On (s + d) p c (t + d) ↔ On s p c t ∧ t + d ≤ 253402300799 := by
  rw [on_iff2 h, on_iff2 k]
  constructor
  · rintro ⟨n, h0, h1, h2, h3⟩
    exact ⟨⟨n, h0, by omega, by omega, h3⟩, h2⟩
  · rintro ⟨⟨n, h0, h1, h2, h3⟩, h4⟩
    exact ⟨n, h0, by omega, h4, h3⟩
/-- if no count ends it, the last valid time does -/
theorem last_end {s p c : Int} (h : Ok s p c) (q : c = 0 ∨ num s p c < c) : 253402300799 - p < last s p c := by
  have := (num_iff h (num s p c)).2
  have e : last s p c + p = s + num s p c * p := by unfold last; rw [Int.sub_mul]; omega
  apply Classical.byContradiction
  intro k
  have := this ⟨by omega, by omega⟩
  omega
theorem cnt_all {s p c : Int} (h : Ok s p c) : cnt s p c 0 253402300799 = num s p c := by
  unfold cnt
  rw [if_neg (by omega)]
  have a : upto s p c (0 - 1) = 0 := by unfold upto; rw [if_pos (by have := h.s0; omega)]
  have l := num_pos h
  have u := upto_hi h 253402300799
  have b := (upto_iff h 253402300799 (n := num s p c - 1) (by omega) (by omega)).2 (((num_iff h _).1 (by omega)).1)
  omega
theorem cnt_from {s p c n : Int} (h : Ok s p c) (h0 : 0 ≤ n) (h1 : n < num s p c) : cnt s p c s (s + n * p) = n + 1 := by
  have hp := h.p0
  have := Int.mul_nonneg h0 (show 0 ≤ p by omega)
  unfold cnt
  rw [if_neg (by omega), upto_at h h0 h1]
  have a : upto s p c (s - 1) = 0 := by unfold upto; rw [if_pos (by omega)]
  omega
/-- from a time that lies in it or not, to the next one -/
theorem cnt_next {s p c t v : Int} (h : Ok s p c) (q : IsNext s p c t v true) : cnt s p c t v = (if upto s p c (t - 1) < upto s p c t then 2 else 1) := by
  rcases q with ⟨_, h1, h2, h3⟩ | ⟨e, _⟩
  · obtain ⟨n, n0, n1, rfl⟩ := (on_iff h v).1 h1
    unfold cnt
    rw [if_neg (by omega), upto_at h n0 n1]
    have e : upto s p c t = n := by
      have l := upto_lo h t
      have u := upto_hi h t
      have a := upto_iff h t n0 n1
      have d : ¬ upto s p c t < n := fun k => by
        have o := on_at h l (by omega)
        have := upto_iff h t l (by omega)
        have := h3 _ o (by omega)
        have := (at_le (s := s) (a := n) (b := upto s p c t) h.p0).1 this
        omega
      omega
    have o := upto_on (t := t) h
    split at o
    · rename_i k; rw [if_pos k]; omega
    · rename_i k; rw [if_neg k]; omega
  · simp at e

/-- what two schedules share first -/
def IsMeet (s p c s' p' c' v : Int) (b : Bool) : Prop :=
  (b = true ∧ On s p c v ∧ On s' p' c' v ∧ ∀ u, On s p c u → On s' p' c' u → v ≤ u) ∨ (b = false ∧ v = 0 ∧ ∀ u, On s p c u → ¬ On s' p' c' u)
theorem IsMeet.uniq {s p c s' p' c' v v' : Int} {b b' : Bool} (h : IsMeet s p c s' p' c' v b) (h' : IsMeet s p c s' p' c' v' b') : v = v' ∧ b = b' := by
  rcases h with ⟨rfl, h1, h2, h3⟩ | ⟨rfl, rfl, h3⟩ <;> rcases h' with ⟨rfl, k1, k2, k3⟩ | ⟨rfl, rfl, k3⟩
  · have := h3 _ k1 k2
    have := k3 _ h1 h2
    exact ⟨by omega, rfl⟩
  · exact absurd h2 (k3 _ h1)
  · exact absurd k2 (h3 _ k1)
  · exact ⟨rfl, rfl⟩
theorem IsMeet.comm {s p c s' p' c' v : Int} {b : Bool} (h : IsMeet s p c s' p' c' v b) : IsMeet s' p' c' s p c v b := by
  rcases h with ⟨rfl, h1, h2, h3⟩ | ⟨rfl, rfl, h3⟩
  · exact .inl ⟨rfl, h2, h1, fun u a b => h3 u b a⟩
  · exact .inr ⟨rfl, rfl, fun u a b => h3 u b a⟩
theorem meet_self {s p c : Int} (h : Ok s p c) : IsMeet s p c s p c s true :=
  .inl ⟨rfl, on_start h, on_start h, fun _ o _ => (on_time h o).2.2⟩
theorem on_cg {s p c t : Int} (h : Ok s p c) (o : On s p c t) : Cg p t s := by
  obtain ⟨n, h0, h1, rfl⟩ := (on_iff h t).1 o
  exact ⟨n, by rw [Int.mul_comm]; omega⟩
/-- the first step that leads to a time of the other schedule, as far as neither ends -/
structure Cand (s p s' p' n : Int) : Prop where
  n0 : 0 ≤ n
  cg : Cg p' (s + n * p) s'
  ge : s' ≤ s + n * p
  first : ∀ k, 0 ≤ k → Cg p' (s + k * p) s' → s' ≤ s + k * p → n ≤ k
theorem cand_both {s p c s' p' c' n u : Int} (h : Ok s p c) (h' : Ok s' p' c') (q : Cand s p s' p' n) (o : On s p c u) (o' : On s' p' c' u) :
    s + n * p ≤ u ∧ On s p c (s + n * p) ∧ On s' p' c' (s + n * p) := by
  obtain ⟨k, k0, k1, rfl⟩ := (on_iff h u).1 o
  have f := q.first k k0 (on_cg h' o') (on_time h' o').2.2
  have le : s + n * p ≤ s + k * p := (at_le h.p0).2 f
  refine ⟨le, on_at h q.n0 (by omega), ?_⟩
  obtain ⟨j, j0, j1, e⟩ := (on_iff h' _).1 o'
  obtain ⟨i, hi⟩ := q.cg
  have hp := h'.p0
  have ei : s + n * p = s' + i * p' := by rw [Int.mul_comm i]; omega
  rw [ei]
  have a := (at_le (s := s') (a := 0) (b := i) hp).1 (by have := q.ge; omega)
  have b := (at_le (s := s') (a := i) (b := j) hp).1 (by omega)
  exact on_at h' a (by omega)
theorem cand_yes {s p c s' p' c' n : Int} (h : Ok s p c) (h' : Ok s' p' c') (q : Cand s p s' p' n) (o : On s p c (s + n * p)) (o' : On s' p' c' (s + n * p)) :
    IsMeet s p c s' p' c' (s + n * p) true := .inl ⟨rfl, o, o', fun _ a b => (cand_both h h' q a b).1⟩
theorem cand_no {s p c s' p' c' n : Int} (h : Ok s p c) (h' : Ok s' p' c') (q : Cand s p s' p' n) (o : ¬ (On s p c (s + n * p) ∧ On s' p' c' (s + n * p))) :
    IsMeet s p c s' p' c' 0 false := .inr ⟨rfl, rfl, fun _ a b => o (cand_both h h' q a b).2⟩
theorem Steps.ge' {s p s' p' g m X : Int} (q : Steps s p s' p' g m X) {k : Int} (k0 : 0 ≤ k) (hk : Cg p' (s + k * p) s') : X ≤ k ∧ (X < k → X + m ≤ k) := by
  obtain ⟨i, hi⟩ := (q.yes k).1 hk
  have m0 := q.m0
  have x1 := q.x1
  have a : ¬ i ≤ -1 := fun r => by
    have := Int.mul_le_mul_of_nonneg_left r (show 0 ≤ m by omega)
    omega
  have b : 0 ≤ m * i := Int.mul_nonneg (by omega) (by omega)
  refine ⟨by omega, fun r => ?_⟩
  have : 1 ≤ i := by
    apply Classical.byContradiction
    intro w
    obtain rfl : i = 0 := by omega
    omega
  have := Int.mul_le_mul_of_nonneg_left this (show 0 ≤ m by omega)
  omega
theorem cand_one {s p s' p' g m X : Int} (q : Steps s p s' p' g m X) (r : s' ≤ s + X * p) : Cand s p s' p' X :=
  ⟨q.x0, (q.yes X).2 (Cg.refl _ _), r, fun _ k0 hk _ => (q.ge' k0 hk).1⟩
/-- so many times the common period -/
def rounds (a L : Int) : Int := (a + L - 1) / L
theorem rounds_is {a L : Int} (hL : 0 < L) : a ≤ rounds a L * L ∧ ∀ k, a ≤ k * L → rounds a L ≤ k := by
  have e : rounds a L * L + (a + L - 1) % L = a + L - 1 := by
    unfold rounds
    have := Int.mul_ediv_add_emod (a + L - 1) L
    rw [Int.mul_comm] at this
    omega
  have m1 := Int.emod_lt_of_pos (a + L - 1) hL
  refine ⟨by omega, fun k hk => ?_⟩
  apply Classical.byContradiction
  intro w
  have := Int.mul_le_mul_of_nonneg_right (show k + 1 ≤ rounds a L by omega) (show 0 ≤ L by omega)
  rw [Int.add_mul] at this
  have := Int.emod_nonneg (a + L - 1) (show L ≠ 0 by omega)
  omega
theorem at_round {s p m X k : Int} : s + (X + m * k) * p = s + X * p + k * (m * p) := by
  rw [Int.add_mul, show m * k * p = k * (m * p) by simp only [Int.mul_comm, Int.mul_left_comm]]
  omega
theorem cand_two {s p s' p' g m X : Int} (q : Steps s p s' p' g m X) (hp : 1 ≤ p) (r : s + X * p < s') : Cand s p s' p' (X + m * rounds (s' - (s + X * p)) (m * p)) := by
  have m0 := q.m0
  have L0 : 0 < m * p := Int.mul_pos m0 (by omega)
  obtain ⟨e1, e2⟩ := rounds_is (a := s' - (s + X * p)) L0
  obtain ⟨K, hK⟩ : ∃ K, rounds (s' - (s + X * p)) (m * p) = K := ⟨_, rfl⟩
  rw [hK] at e1 e2 ⊢
  have K0 : 0 ≤ K := by
    apply Classical.byContradiction
    intro w
    have := Int.mul_le_mul_of_nonneg_right (show K ≤ 0 by omega) (show 0 ≤ m * p by omega)
    omega
  have mK := Int.mul_nonneg (show 0 ≤ m by omega) K0
  refine ⟨by have := q.x0; omega, (q.yes _).2 ⟨K, by omega⟩, by rw [at_round]; omega, fun k k0 hk ge => ?_⟩
  obtain ⟨i, hi⟩ := (q.yes k).1 hk
  have ek : k = X + m * i := by omega
  subst ek
  rw [at_round] at ge
  have := e2 i (by omega)
  have := Int.mul_le_mul_of_nonneg_left this (show 0 ≤ m by omega)
  omega
theorem none_far {s p c s' p' c' g m X : Int} (h : Ok s p c) (h' : Ok s' p' c') (q : Steps s p s' p' g m X) (r : (253402300799 - s) / p < X) : IsMeet s p c s' p' c' 0 false := by
  refine .inr ⟨rfl, rfl, fun u o o' => ?_⟩
  obtain ⟨k, k0, k1, rfl⟩ := (on_iff h u).1 o
  have a := (q.ge' k0 (on_cg h' o')).1
  have b := num_le (s := s) (p := p) (c := c)
  unfold full at b
  omega
theorem none_wide {s p c s' p' c' g m X : Int} (h : Ok s p c) (h' : Ok s' p' c') (q : Steps s p s' p' g m X) (lt : s + X * p < s') (r : 253402300799 / p < m) : IsMeet s p c s' p' c' 0 false := by
  refine .inr ⟨rfl, rfl, fun u o o' => ?_⟩
  obtain ⟨k, k0, k1, rfl⟩ := (on_iff h u).1 o
  have a := q.ge' k0 (on_cg h' o')
  have hp := h.p0
  have b := (at_lt (s := s) (a := X) (b := k) hp).1 (by have := (on_time h' o').2.2; omega)
  have d := a.2 b
  have e := (Int.ediv_lt_iff_lt_mul (show 0 < p by omega)).1 r
  have f := mul_mono (p := p) (by omega) d
  rw [Int.add_mul] at f
  have g0 := Int.mul_nonneg q.x0 (show 0 ≤ p by omega)
  have := (on_time h o).2.1
  have := h.s0
  omega
theorem none_gcd {s p c s' p' c' g α m d : Int} (h : Ok s p c) (h' : Ok s' p' c') (hp : p = g * α) (hm : p' = g * m) (hd : Cg p' d (s' - s)) (hn : ¬ g ∣ d) : IsMeet s p c s' p' c' 0 false := by
  refine .inr ⟨rfl, rfl, fun u o o' => ?_⟩
  obtain ⟨k, k0, k1, rfl⟩ := (on_iff h u).1 o
  exact steps_none hp hm hd hn k (on_cg h' o')
/-- the steps out of Euclid's numbers -/
theorem steps_of {s p s' p' g x y d m X : Int} (g0 : 0 < g) (hg : p * x + p' * y = g) (h1 : g ∣ p) (h2 : g ∣ p') (hd : Cg p' d (s' - s)) (hz : d % g = 0)
    (hm : p' / g = m) (x0 : 0 ≤ X) (x1 : X < m) (hX : Cg m X (d / g * x)) : Steps s p s' p' g m X := by
  obtain ⟨α, ha⟩ := h1
  have hb : p' = g * m := by rw [← hm]; exact (Int.mul_ediv_cancel' h2).symm
  have he : d = g * (d / g) := (Int.mul_ediv_cancel' (Int.dvd_of_emod_eq_zero hz)).symm
  have m0 : 0 < m := by omega
  have hB : α * x + m * y = 1 := by
    have e : g * (α * x + m * y) = g * 1 := by
      rw [Int.mul_add, ← Int.mul_assoc, ← Int.mul_assoc, ← ha, ← hb, hg, Int.mul_one]
    exact Int.eq_of_mul_eq_mul_left (by omega) e
  exact steps_any g0 m0 ha hb hB hd he x0 x1 hX
theorem no_steps_of {s p c s' p' c' g d : Int} (h : Ok s p c) (h' : Ok s' p' c') (h1 : g ∣ p) (h2 : g ∣ p') (hd : Cg p' d (s' - s)) (hz : d % g ≠ 0) : IsMeet s p c s' p' c' 0 false := by
  obtain ⟨α, ha⟩ := h1
  obtain ⟨m, hm⟩ := h2
  exact none_gcd h h' ha hm hd (fun k => hz (Int.emod_eq_zero_of_dvd k))
/-- the first shared time comes within the product of the periods behind both starts -/
theorem meet_near {s p c s' p' c' v : Int} (h : Ok s p c) (h' : Ok s' p' c') (q : IsMeet s p c s' p' c' v true) : v ≤ max s s' + p * p' := by
  rcases q with ⟨_, h1, h2, h3⟩ | ⟨e, _⟩
  · apply Classical.byContradiction
    intro w
    obtain ⟨n, n0, n1, e1⟩ := (on_iff h v).1 h1
    obtain ⟨k, k0, k1, e2⟩ := (on_iff h' v).1 h2
    have hp := h.p0
    have hp' := h'.p0
    have pp : 0 < p * p' := Int.mul_pos (by omega) (by omega)
    have a1 : v - p * p' = s + (n - p') * p := by rw [Int.sub_mul, Int.mul_comm p' p]; omega
    have a2 : v - p * p' = s' + (k - p) * p' := by rw [Int.sub_mul]; omega
    have b1 := (at_le (s := s) (a := 0) (b := n - p') hp).1 (by omega)
    have b2 := (at_le (s := s') (a := 0) (b := k - p) hp').1 (by omega)
    have o1 := on_at h b1 (by omega)
    have o2 := on_at h' b2 (by omega)
    rw [← a1] at o1
    rw [← a2] at o2
    have := h3 _ o1 o2
    omega
  · simp at e
end Go.Proofs.Ytnajpgkahnjabaa.Ev
