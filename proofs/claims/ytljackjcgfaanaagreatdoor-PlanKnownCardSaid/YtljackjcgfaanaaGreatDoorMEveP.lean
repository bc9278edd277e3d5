/- Plain facts on schedules with a fixed period: their times, numbers, what two of them share. No program stands here. Plain facts on what two schedules share: divisors, rests, products modulo a number by doubling. No program stands here. Plain facts: the first time that two schedules share; shifted schedules; the ends. No program stands here. Plain facts on the division of a number of two words by one word, digit by digit. No program stands here. Plain facts: the smallest multiple of a step that leaves a given rest. No program stands here. -/

/- Plain facts on schedules with a fixed period: their times, numbers, what two of them share. No program stands here. -/

namespace Go.Proofs.YtljackjcgfaanaaGreatDoor.Ev

/-- a valid schedule: start, period, count -/
structure Ok (s p c : Int) : Prop where
  s0 : 0 ≤ s
  s1 : s ≤ 253402300799
  p0 : 1 ≤ p
  p1 : p ≤ 68719476736
  c0 : 0 ≤ c
  c1 : c ≤ 1000000
/-- how many times it has, if nothing but the last valid time ends it -/
def full (s p : Int) : Int := (253402300799 - s) / p + 1
/-- how many times it has -/
def num (s p c : Int) : Int := if 0 < c ∧ c < full s p then c else full s p
/-- one of its times -/
def On (s p c t : Int) : Prop := s ≤ t ∧ (t - s) % p = 0 ∧ (t - s) / p < num s p c
/-- how many of its times are at most t -/
def upto (s p c t : Int) : Int := if t < s then 0 else min ((t - s) / p + 1) (num s p c)

theorem mul_mono {a b p : Int} (hp : 0 ≤ p) (h : a ≤ b) : a * p ≤ b * p := Int.mul_le_mul_of_nonneg_right h hp
theorem full_pos {s p c : Int} (h : Ok s p c) : 1 ≤ full s p := by
  have := Int.ediv_nonneg (a := 253402300799 - s) (b := p) (by have := h.s1; omega) (by have := h.p0; omega)
  unfold full; omega
theorem num_pos {s p c : Int} (h : Ok s p c) : 1 ≤ num s p c := by
  have := full_pos h
  unfold num; split <;> omega
theorem num_le {s p c : Int} : num s p c ≤ full s p := by unfold num; split <;> omega
/-- n is below the full number just if its time is valid -/
theorem full_iff {s p c : Int} (h : Ok s p c) (n : Int) : n < full s p ↔ s + n * p ≤ 253402300799 := by
  have hp := h.p0
  unfold full
  rw [show n < (253402300799 - s) / p + 1 ↔ n ≤ (253402300799 - s) / p by omega, Int.le_ediv_iff_mul_le (by omega)]
  omega
theorem num_iff {s p c : Int} (h : Ok s p c) (n : Int) : n < num s p c ↔ s + n * p ≤ 253402300799 ∧ (0 < c → n < c) := by
  rw [← full_iff h]
  unfold num
  by_cases q : 0 < c ∧ c < full s p
  · rw [if_pos q]; omega
  · rw [if_neg q]; omega
theorem full_small {s p c : Int} (h : Ok s p c) : full s p ≤ 253402300800 := by
  have := (full_iff h (full s p - 1)).1 (by omega)
  have h1 := h.s0
  have h2 := mul_mono (a := 1) (b := p) (p := full s p - 1) (by have := full_pos h; omega) h.p0
  rw [Int.mul_comm p] at h2
  omega
theorem num_small {s p c : Int} (h : Ok s p c) : num s p c ≤ 253402300800 := Int.le_trans num_le (full_small h)
theorem at_div {s p n : Int} (hp : 1 ≤ p) : (s + n * p - s) / p = n ∧ (s + n * p - s) % p = 0 := by
  rw [show s + n * p - s = n * p by omega]
  exact ⟨Int.mul_ediv_cancel n (by omega), Int.mul_emod_left n p⟩
/-- the times are those that have a number -/
theorem on_iff {s p c : Int} (h : Ok s p c) (t : Int) : On s p c t ↔ ∃ n, 0 ≤ n ∧ n < num s p c ∧ t = s + n * p := by
  have hp := h.p0
  constructor
  · rintro ⟨h1, h2, h3⟩
    refine ⟨(t - s) / p, Int.ediv_nonneg (by omega) (by omega), h3, ?_⟩
    have := Int.mul_ediv_add_emod (t - s) p
    rw [Int.mul_comm] at this
    omega
  · rintro ⟨n, h1, h2, rfl⟩
    obtain ⟨e1, e2⟩ := at_div (s := s) (n := n) hp
    refine ⟨?_, e2, by rw [e1]; exact h2⟩
    have := Int.mul_nonneg h1 (show 0 ≤ p by omega)
    omega
theorem on_at {s p c n : Int} (h : Ok s p c) (h0 : 0 ≤ n) (h1 : n < num s p c) : On s p c (s + n * p) := (on_iff h _).2 ⟨n, h0, h1, rfl⟩
theorem on_time {s p c t : Int} (h : Ok s p c) (o : On s p c t) : 0 ≤ t ∧ t ≤ 253402300799 ∧ s ≤ t := by
  obtain ⟨n, h0, h1, rfl⟩ := (on_iff h t).1 o
  have := ((num_iff h n).1 h1).1
  have := o.1
  have := h.s0
  omega
theorem at_lt {s p a b : Int} (hp : 1 ≤ p) : s + a * p < s + b * p ↔ a < b := by
  constructor
  · intro q
    apply Classical.byContradiction
    intro k
    have := mul_mono (a := b) (b := a) (p := p) (by omega) (by omega)
    omega
  · intro q
    have := mul_mono (a := a + 1) (b := b) (p := p) (by omega) (by omega)
    rw [Int.add_mul] at this
    omega
theorem at_le {s p a b : Int} (hp : 1 ≤ p) : s + a * p ≤ s + b * p ↔ a ≤ b := by
  have := at_lt (s := s) (a := b) (b := a) hp
  omega
theorem upto_lo {s p c : Int} (h : Ok s p c) (t : Int) : 0 ≤ upto s p c t := by
  have hp := h.p0
  have := num_pos h
  unfold upto
  split
  · omega
  · have := Int.ediv_nonneg (a := t - s) (b := p) (by omega) (by omega)
    omega
theorem upto_hi {s p c : Int} (h : Ok s p c) (t : Int) : upto s p c t ≤ num s p c := by
  have := num_pos h
  unfold upto
  split <;> omega
/-- the numbers below upto are those of the times up to t -/
theorem upto_iff {s p c : Int} (h : Ok s p c) (t : Int) {n : Int} (h0 : 0 ≤ n) (h1 : n < num s p c) : n < upto s p c t ↔ s + n * p ≤ t := by
  have hp := h.p0
  unfold upto
  by_cases q : t < s
  · rw [if_pos q]
    have := Int.mul_nonneg h0 (show 0 ≤ p by omega)
    omega
  · rw [if_neg q, show n < min ((t - s) / p + 1) (num s p c) ↔ n ≤ (t - s) / p by omega, Int.le_ediv_iff_mul_le (by omega)]
    omega
theorem upto_mono {s p c : Int} (h : Ok s p c) {a b : Int} (hab : a ≤ b) : upto s p c a ≤ upto s p c b := by
  apply Classical.byContradiction
  intro q
  have h0 := upto_lo h b
  have h1 := upto_hi h a
  have := (upto_iff h a h0 (by omega)).1 (by omega)
  have := (upto_iff h b h0 (by omega)).2 (by omega)
  omega
theorem upto_at {s p c n : Int} (h : Ok s p c) (h0 : 0 ≤ n) (h1 : n < num s p c) : upto s p c (s + n * p) = n + 1 := by
  have hp := h.p0
  have a := (upto_iff h (s + n * p) h0 h1).2 (Int.le_refl _)
  have b := upto_hi h (s + n * p)
  apply Classical.byContradiction
  intro q
  have := (upto_iff h (s + n * p) (n := n + 1) (by omega) (by omega)).1 (by omega)
  have := (at_le (s := s) (a := n + 1) (b := n) hp).1 this
  omega
theorem upto_before {s p c n : Int} (h : Ok s p c) (h0 : 0 ≤ n) (h1 : n < num s p c) : upto s p c (s + n * p - 1) = n := by
  have hp := h.p0
  have a : ¬ n < upto s p c (s + n * p - 1) := fun q => by
    have := (upto_iff h (s + n * p - 1) h0 h1).1 q
    omega
  apply Classical.byContradiction
  intro q
  have l := upto_lo h (s + n * p - 1)
  have k : ¬ upto s p c (s + n * p - 1) < upto s p c (s + n * p - 1) := by omega
  apply k
  refine (upto_iff h _ l (by omega)).2 ?_
  have := (at_lt (s := s) (a := upto s p c (s + n * p - 1)) (b := n) hp).2 (by omega)
  omega
/-- a time of the schedule: counted at it, not before it; any other second is not counted -/
theorem upto_on {s p c t : Int} (h : Ok s p c) : upto s p c t - upto s p c (t - 1) = if (upto s p c (t - 1) < upto s p c t) then 1 else 0 := by
  have hp := h.p0
  have m := upto_mono h (a := t - 1) (b := t) (by omega)
  split
  · rename_i q
    apply Classical.byContradiction
    intro k
    have l := upto_lo h (t - 1)
    have u := upto_hi h t
    have a := (upto_iff h t (n := upto s p c (t - 1)) l (by omega)).1 q
    have b := (upto_iff h t (n := upto s p c (t - 1) + 1) (by omega) (by omega)).1 (by omega)
    have d : ¬ s + upto s p c (t - 1) * p ≤ t - 1 := fun r => by
      have := (upto_iff h (t - 1) (n := upto s p c (t - 1)) l (by omega)).2 r
      omega
    rw [Int.add_mul] at b
    omega
  · omega
theorem on_upto {s p c t : Int} (h : Ok s p c) : On s p c t ↔ upto s p c (t - 1) < upto s p c t := by
  rw [on_iff h]
  constructor
  · rintro ⟨n, h0, h1, rfl⟩
    rw [upto_at h h0 h1, upto_before h h0 h1]
    omega
  · intro q
    have l := upto_lo h (t - 1)
    have u := upto_hi h t
    refine ⟨upto s p c (t - 1), l, by omega, ?_⟩
    have a := (upto_iff h t (n := upto s p c (t - 1)) l (by omega)).1 q
    have d : ¬ s + upto s p c (t - 1) * p ≤ t - 1 := fun r => by
      have := (upto_iff h (t - 1) (n := upto s p c (t - 1)) l (by omega)).2 r
      omega
    omega

/-- the next time -/
def IsNext (s p c t v : Int) (b : Bool) : Prop := (b = true ∧ On s p c v ∧ t < v ∧ ∀ u, On s p c u → t < u → v ≤ u) ∨ (b = false ∧ v = 0 ∧ ∀ u, On s p c u → u ≤ t)
/-- the time before -/
def IsPrev (s p c t v : Int) (b : Bool) : Prop := (b = true ∧ On s p c v ∧ v < t ∧ ∀ u, On s p c u → u < t → u ≤ v) ∨ (b = false ∧ v = 0 ∧ ∀ u, On s p c u → t ≤ u)
theorem IsNext.uniq {s p c t v v' : Int} {b b' : Bool} (h : IsNext s p c t v b) (h' : IsNext s p c t v' b') : v = v' ∧ b = b' := by
  rcases h with ⟨rfl, h1, h2, h3⟩ | ⟨rfl, rfl, h3⟩ <;> rcases h' with ⟨rfl, k1, k2, k3⟩ | ⟨rfl, rfl, k3⟩
  · have := h3 _ k1 k2
    have := k3 _ h1 h2
    exact ⟨by omega, rfl⟩
  · have := k3 _ h1; omega
  · have := h3 _ k1; omega
  · exact ⟨rfl, rfl⟩
theorem IsPrev.uniq {s p c t v v' : Int} {b b' : Bool} (h : IsPrev s p c t v b) (h' : IsPrev s p c t v' b') : v = v' ∧ b = b' := by
  rcases h with ⟨rfl, h1, h2, h3⟩ | ⟨rfl, rfl, h3⟩ <;> rcases h' with ⟨rfl, k1, k2, k3⟩ | ⟨rfl, rfl, k3⟩
  · have := h3 _ k1 k2
    have := k3 _ h1 h2
    exact ⟨by omega, rfl⟩
  · have := k3 _ h1; omega
  · have := h3 _ k1; omega
  · exact ⟨rfl, rfl⟩
theorem next_some {s p c t : Int} (h : Ok s p c) (q : upto s p c t < num s p c) : IsNext s p c t (s + upto s p c t * p) true := by
  have hp := h.p0
  have l := upto_lo h t
  refine .inl ⟨rfl, on_at h l q, ?_, fun u o k => ?_⟩
  · have := upto_iff h t l q; omega
  · obtain ⟨n, h0, h1, rfl⟩ := (on_iff h u).1 o
    rw [at_le hp]
    have := upto_iff h t h0 h1
    omega
theorem next_none {s p c t : Int} (h : Ok s p c) (q : num s p c ≤ upto s p c t) : IsNext s p c t 0 false := by
  refine .inr ⟨rfl, rfl, fun u o => ?_⟩
  obtain ⟨n, h0, h1, rfl⟩ := (on_iff h u).1 o
  exact (upto_iff h t h0 h1).1 (by omega)
/-- the last time -/
def last (s p c : Int) : Int := s + (num s p c - 1) * p
/-- how many times lie from a to b -/
def cnt (s p c a b : Int) : Int := if b < a then 0 else upto s p c b - upto s p c (a - 1)
theorem cnt_sum {s p c a b d : Int} (h1 : a ≤ b) (h2 : b < d) : cnt s p c a b + cnt s p c (b + 1) d = cnt s p c a d := by
  unfold cnt
  rw [if_neg (by omega), if_neg (by omega), if_neg (by omega), show b + 1 - 1 = b by omega]
  omega
theorem cnt_one {s p c t : Int} (h : Ok s p c) : 0 ≤ cnt s p c t t ∧ cnt s p c t t ≤ 1 ∧ (cnt s p c t t = 1 ↔ On s p c t) := by
  unfold cnt
  rw [if_neg (by omega), upto_on h, on_upto h]
  split <;> omega
end Go.Proofs.YtljackjcgfaanaaGreatDoor.Ev
/- Plain facts on what two schedules share: divisors, rests, products modulo a number by doubling. No program stands here. -/
namespace Go.Proofs.YtljackjcgfaanaaGreatDoor.Ev

/-- Euclid's algorithm: the greatest common divisor, and how it is made of both numbers -/
def eu (a b : Nat) : Nat × Int × Int :=
  if _h : b = 0 then (a, 1, 0) else ((eu b (a % b)).1, (eu b (a % b)).2.2, (eu b (a % b)).2.1 - ((a / b : Nat) : Int) * (eu b (a % b)).2.2)
termination_by b
decreasing_by exact Nat.mod_lt _ (by omega)
/-- Congruent -/
def Cg (m a b : Int) : Prop := m ∣ a - b
theorem Cg.refl (m a : Int) : Cg m a a := by unfold Cg; simp
theorem Cg.symm {m a b : Int} (h : Cg m a b) : Cg m b a := by
  unfold Cg at *
  rw [show b - a = -(a - b) by omega]
  exact (Int.dvd_neg).2 h
theorem Cg.trans {m a b c : Int} (h : Cg m a b) (k : Cg m b c) : Cg m a c := by
  unfold Cg at *
  rw [show a - c = (a - b) + (b - c) by omega]
  exact Int.dvd_add h k
theorem Cg.add {m a b c d : Int} (h : Cg m a b) (k : Cg m c d) : Cg m (a + c) (b + d) := by
  unfold Cg at *
  rw [show a + c - (b + d) = (a - b) + (c - d) by omega]
  exact Int.dvd_add h k
theorem Cg.eq {m a b : Int} (h : Cg m a b) (a0 : 0 ≤ a) (a1 : a < m) (b0 : 0 ≤ b) (b1 : b < m) : a = b := by
  obtain ⟨k, hk⟩ := h
  have hm : 0 < m := by omega
  have k1 : ¬ 1 ≤ k := fun q => by
    have := Int.mul_le_mul_of_nonneg_left q (show 0 ≤ m by omega)
    omega
  have k2 : ¬ k ≤ -1 := fun q => by
    have := Int.mul_le_mul_of_nonneg_left q (show 0 ≤ m by omega)
    omega
  obtain rfl : k = 0 := by omega
  omega
theorem Cg.zero {m a : Int} : Cg m a 0 ↔ m ∣ a := by unfold Cg; rw [Int.sub_zero]
end Go.Proofs.YtljackjcgfaanaaGreatDoor.Ev
/- Plain facts: the first time that two schedules share; shifted schedules; the ends. No program stands here. -/
namespace Go.Proofs.YtljackjcgfaanaaGreatDoor.Ev
/-- what two schedules share first -/
def IsMeet (s p c s' p' c' v : Int) (b : Bool) : Prop :=
  (b = true ∧ On s p c v ∧ On s' p' c' v ∧ ∀ u, On s p c u → On s' p' c' u → v ≤ u) ∨ (b = false ∧ v = 0 ∧ ∀ u, On s p c u → ¬ On s' p' c' u)
theorem IsMeet.uniq {s p c s' p' c' v v' : Int} {b b' : Bool} (h : IsMeet s p c s' p' c' v b) (h' : IsMeet s p c s' p' c' v' b') : v = v' ∧ b = b' := by
  rcases h with ⟨rfl, h1, h2, h3⟩ | ⟨rfl, rfl, h3⟩ <;> rcases h' with ⟨rfl, k1, k2, k3⟩ | ⟨rfl, rfl, k3⟩
  · have := h3 _ k1 k2
    have := k3 _ h1 h2
    exact ⟨by omega, rfl⟩
  · exact absurd h2 (k3 _ h1)
  · exact absurd k2 (h3 _ k1)
  · exact ⟨rfl, rfl⟩
/-- so many times the common period -/
def rounds (a L : Int) : Int := (a + L - 1) / L
end Go.Proofs.YtljackjcgfaanaaGreatDoor.Ev
/- Plain facts on the division of a number of two words by one word, digit by digit. No program stands here. -/
namespace Go.Proofs.YtljackjcgfaanaaGreatDoor.Dv
/-- shifted by so many bits: the two words of the number -/
theorem shifted (hi lo s : Nat) (hs : s ≤ 64) : (hi * 2 ^ s + lo / 2 ^ (64 - s)) * 18446744073709551616 + lo * 2 ^ s % 18446744073709551616 = (hi * 18446744073709551616 + lo) * 2 ^ s := by
  have e : (2 : Nat) ^ (64 - s) * 2 ^ s = 18446744073709551616 := by rw [← Nat.pow_add, show 64 - s + s = 64 by omega]
  have e2 : lo / 2 ^ (64 - s) = lo * 2 ^ s / 18446744073709551616 := by
    rw [← e, Nat.mul_div_mul_right _ _ (Nat.two_pow_pos s)]
  rw [e2]
  have := Nat.div_add_mod (lo * 2 ^ s) 18446744073709551616
  rw [Nat.add_mul, Nat.add_mul, Nat.mul_right_comm hi (2 ^ s)]
  omega
/-- the whole: the digits' quotient is that of the numbers as they came -/
theorem whole {hi lo y s : Nat} (hs : s ≤ 64) :
    ((hi * 2 ^ s + lo / 2 ^ (64 - s)) * 18446744073709551616 + lo * 2 ^ s % 18446744073709551616) / (y * 2 ^ s) = (hi * 18446744073709551616 + lo) / y := by
  rw [shifted hi lo s hs, Nat.mul_div_mul_right _ _ (Nat.two_pow_pos s)]
end Go.Proofs.YtljackjcgfaanaaGreatDoor.Dv
/- Plain facts: the smallest multiple of a step that leaves a given rest. No program stands here. -/
namespace Go.Proofs.YtljackjcgfaanaaGreatDoor.Ev

/-- the smallest n for which n times p leaves the rest of r, divided by m -/
def IsSt (p r m n : Int) (b : Bool) : Prop :=
  (b = true ∧ 0 ≤ n ∧ n < m ∧ Cg m (n * p) r ∧ ∀ k, 0 ≤ k → Cg m (k * p) r → n ≤ k) ∨ (b = false ∧ n = 0 ∧ ∀ k, 0 ≤ k → ¬ Cg m (k * p) r)
theorem IsSt.uniq {p r m n n' : Int} {b b' : Bool} (h : IsSt p r m n b) (h' : IsSt p r m n' b') : n = n' ∧ b = b' := by
  rcases h with ⟨rfl, h0, h1, h2, h3⟩ | ⟨rfl, rfl, h3⟩ <;> rcases h' with ⟨rfl, k0, k1, k2, k3⟩ | ⟨rfl, rfl, k3⟩
  · have := h3 _ k0 k2
    have := k3 _ h0 h2
    exact ⟨by omega, rfl⟩
  · exact absurd h2 (k3 _ h0)
  · exact absurd k2 (h3 _ k0)
  · exact ⟨rfl, rfl⟩
end Go.Proofs.YtljackjcgfaanaaGreatDoor.Ev
