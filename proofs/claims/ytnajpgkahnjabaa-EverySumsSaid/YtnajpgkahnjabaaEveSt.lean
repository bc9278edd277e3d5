/- Plain facts: the smallest multiple of a step that leaves a given rest. No program stands here. -/
import Derived.Test.YtnajpgkahnjabaaEveBoth
namespace Go.Proofs.Ytnajpgkahnjabaa.Ev

/-- the smallest n for which n times p leaves the rest of r, divided by m -/
def IsSt (p r m n : Int) (b : Bool) : Prop :=
  (b = true ∧ 0 ≤ n ∧ n < m ∧ Cg m (n * p) r ∧ ∀ k, 0 ≤ k → Cg m (k * p) r → n ≤ k) ∨ (b = false ∧ n = 0 ∧ ∀ k, 0 ≤ k → ¬ Cg m (k * p) r)
theorem IsSt.uniq {p r m n n' : Int} {b b' : Bool} (h : IsSt p r m n b) (h' : IsSt p r m n' b') : n = n' ∧ b = b' := by
  rcases h with ⟨rfl, h0, h1, h2, h3⟩ | ⟨rfl, rfl, h3⟩ <;> rcases h' with ⟨rfl, k0, k1, k2, k3⟩ | ⟨rfl, rfl, k3⟩
  · have := h3 _ k0 k2
    have := k3 _ h0 h2
    exact ⟨by omega, rfl⟩
  · exact absurd h2 (k3 _ h0)
  · exact absurd k2 (h3 _ k0)
  · exact ⟨rfl, rfl⟩
theorem cg_red {p r m k : Int} : Cg m (k * p) r ↔ Cg m (k * (p % m)) (r % m) := by
  constructor
  · intro h
    exact (((Cg.mod m p).mulL k).trans h).trans (Cg.mod m r).symm
  · intro h
    exact (((Cg.mod m p).mulL k).symm.trans h).trans (Cg.mod m r)
theorem st_red {p r m n : Int} {b : Bool} : IsSt p r m n b ↔ IsSt (p % m) (r % m) m n b := by
  unfold IsSt
  simp only [← cg_red]
theorem st_zero {p m : Int} (hm : 0 < m) : IsSt p 0 m 0 true := .inl ⟨rfl, by omega, hm, by rw [Int.zero_mul]; exact Cg.refl _ _, fun _ h _ => h⟩
theorem st_none {r m : Int} (r0 : 0 < r) (r1 : r < m) : IsSt 0 r m 0 false := .inr ⟨rfl, rfl, fun k _ h => by
  rw [Int.mul_zero] at h
  have := h.eq (by omega) (by omega) (by omega) r1
  omega⟩
/-- n times p is i times m, and the rest -/
theorem st_turn {p r m j : Int} : Cg p (j * m) (p - r % p) ↔ p ∣ j * m + r := by
  unfold Cg
  have e : j * m - (p - r % p) = (j * m + r) + p * (-1 - r / p) := by
    have := Int.mul_ediv_add_emod r p
    rw [Int.mul_sub]
    omega
  rw [e]
  exact (Int.dvd_add_left (Int.dvd_mul_right p _))
theorem st_back {p r m k : Int} (p0 : 0 < p) (r0 : 0 < r) (r1 : r < m) (k0 : 0 ≤ k) (h : Cg m (k * p) r) : ∃ j, 0 ≤ j ∧ k * p = j * m + r ∧ Cg p (j * m) (p - r % p) := by
  obtain ⟨j, hj⟩ := h
  have q := Int.mul_nonneg k0 (show 0 ≤ p by omega)
  refine ⟨j, ?_, by rw [Int.mul_comm j]; omega, ?_⟩
  · apply Classical.byContradiction
    intro w
    have := Int.mul_le_mul_of_nonneg_left (show j ≤ -1 by omega) (show 0 ≤ m by omega)
    omega
  · rw [st_turn]
    exact ⟨k, by rw [Int.mul_comm j, Int.mul_comm p]; omega⟩
theorem st_yes {p r m i : Int} (p0 : 0 < p) (p1 : p < m) (r0 : 0 < r) (r1 : r < m) (h : IsSt m (p - r % p) p i true) : ∃ n, n * p = i * m + r ∧ (i * m + r) / p = n ∧ 0 ≤ i ∧ i < p ∧ IsSt p r m n true := by
  rcases h with ⟨_, i0, i1, hc, hf⟩ | ⟨e, _⟩
  · obtain ⟨n, hn⟩ := st_turn.1 hc
    have hn' : n * p = i * m + r := by rw [Int.mul_comm]; exact hn.symm
    have a := Int.mul_nonneg i0 (show 0 ≤ m by omega)
    have n0 : 0 ≤ n := by
      apply Classical.byContradiction
      intro w
      have := Int.mul_le_mul_of_nonneg_right (show n ≤ -1 by omega) (show 0 ≤ p by omega)
      omega
    have n1 : n < m := by
      apply Classical.byContradiction
      intro w
      have b := Int.mul_le_mul_of_nonneg_right (show m ≤ n by omega) (show 0 ≤ p by omega)
      have c := Int.mul_le_mul_of_nonneg_right (show i ≤ p - 1 by omega) (show 0 ≤ m by omega)
      rw [Int.sub_mul, Int.mul_comm p m] at c
      omega
    refine ⟨n, hn', by rw [← hn']; exact Int.mul_ediv_cancel n (by omega), i0, i1, .inl ⟨rfl, n0, n1, ⟨i, by rw [Int.mul_comm m]; omega⟩, fun k k0 hk => ?_⟩⟩
    obtain ⟨j, j0, e, hj⟩ := st_back p0 r0 r1 k0 hk
    have := Int.mul_le_mul_of_nonneg_right (hf j j0 hj) (show 0 ≤ m by omega)
    apply Classical.byContradiction
    intro w
    have := Int.mul_le_mul_of_nonneg_right (show k + 1 ≤ n by omega) (show 0 ≤ p by omega)
    rw [Int.add_mul] at this
    omega
  · simp at e
theorem st_no {p r m i : Int} (p0 : 0 < p) (r0 : 0 < r) (r1 : r < m) (h : IsSt m (p - r % p) p i false) : IsSt p r m 0 false := by
  rcases h with ⟨e, _⟩ | ⟨_, _, hf⟩
  · simp at e
  · refine .inr ⟨rfl, rfl, fun k k0 hk => ?_⟩
    obtain ⟨j, j0, _, hj⟩ := st_back p0 r0 r1 k0 hk
    exact hf j j0 hj
theorem st_ex : ∀ (d : Nat) (m : Int), 0 < m → m ≤ d → ∀ p r : Int, ∃ n b, IsSt p r m n b := by
  intro d
  induction d with
  | zero => intro m h0 h1; omega
  | succ d ih =>
    intro m m0 m1 p r
    have p0 := Int.emod_nonneg p (show m ≠ 0 by omega)
    have p1 := Int.emod_lt_of_pos p m0
    have r0 := Int.emod_nonneg r (show m ≠ 0 by omega)
    have r1 := Int.emod_lt_of_pos r m0
    simp only [st_red (p := p) (r := r)]
    obtain ⟨P, hP⟩ : ∃ P, p % m = P := ⟨_, rfl⟩
    obtain ⟨R, hR⟩ : ∃ R, r % m = R := ⟨_, rfl⟩
    rw [hP] at p0 p1 ⊢
    rw [hR] at r0 r1 ⊢
    by_cases zr : R = 0
    · subst zr; exact ⟨0, true, st_zero m0⟩
    by_cases zp : P = 0
    · subst zp; exact ⟨0, false, st_none (by omega) r1⟩
    obtain ⟨i, b, hi⟩ := ih P (by omega) (by omega) m (P - R % P)
    cases b with
    | true =>
      obtain ⟨n, _, _, _, _, hn⟩ := st_yes (by omega) p1 (by omega) r1 hi
      exact ⟨n, true, hn⟩
    | false => exact ⟨0, false, st_no (by omega) (by omega) r1 hi⟩

/-- of two schedules the first begins later: which of its times the other one has -/
theorem st_cg {s p s' p' l k : Int} (hl : (s - s') % p' = l) : Cg p' (k * p) (p' - l) ↔ Cg p' (s + k * p) s' := by
  have e : s - s' = p' * ((s - s') / p') + l := by have := Int.mul_ediv_add_emod (s - s') p'; omega
  unfold Cg
  have : s + k * p - s' = (k * p - (p' - l)) + p' * (1 + (s - s') / p') := by rw [Int.mul_add, Int.mul_one]; omega
  rw [this]
  exact (Int.dvd_add_left (Int.dvd_mul_right p' _)).symm
theorem st_cand {s p s' p' l n : Int} (hl : (s - s') % p' = l) (le : s' ≤ s) (p0 : 1 ≤ p) (h : IsSt p (p' - l) p' n true) : Cand s p s' p' n := by
  rcases h with ⟨_, n0, n1, hc, hf⟩ | ⟨e, _⟩
  · have := Int.mul_nonneg n0 (show 0 ≤ p by omega)
    exact ⟨n0, (st_cg hl).1 hc, by omega, fun k k0 hk _ => hf k k0 ((st_cg hl).2 hk)⟩
  · simp at e
theorem st_never {s p c s' p' c' l n : Int} (h : Ok s p c) (h' : Ok s' p' c') (hl : (s - s') % p' = l) (q : IsSt p (p' - l) p' n false) : IsMeet s p c s' p' c' 0 false := by
  rcases q with ⟨e, _⟩ | ⟨_, _, hf⟩
  · simp at e
  · refine .inr ⟨rfl, rfl, fun u o o' => ?_⟩
    obtain ⟨k, k0, k1, rfl⟩ := (on_iff h u).1 o
    exact hf k k0 ((st_cg hl).2 (on_cg h' o'))
theorem on_of {s p c t : Int} (h : Ok s p c) (le : s ≤ t) (hc : Cg p t s) (hl : t ≤ last s p c) : On s p c t := by
  obtain ⟨i, hi⟩ := hc
  have p0 := h.p0
  rw [Int.mul_comm] at hi
  obtain rfl : t = s + i * p := by omega
  have i0 := (at_le (s := s) (a := 0) (b := i) p0).1 (by omega)
  unfold last at hl
  have i1 := (at_le (s := s) (a := i) (b := num s p c - 1) p0).1 hl
  exact on_at h i0 (by omega)
theorem on_num {s p c n : Int} (h : Ok s p c) (o : On s p c (s + n * p)) : n < num s p c := by
  have := o.2.2
  rwa [(at_div h.p0).1] at this
/-- the roads of the program's Meet -/
theorem road_beyond {s p c s' p' c' n : Int} (h : Ok s p c) (h' : Ok s' p' c') (q : Cand s p s' p' n) (k : num s p c ≤ n) : IsMeet s p c s' p' c' 0 false :=
  cand_no h h' q (fun o => by have := on_num h o.1; omega)
theorem road_past {s p c s' p' c' n : Int} (h : Ok s p c) (h' : Ok s' p' c') (q : Cand s p s' p' n) (k : last s' p' c' < s + n * p) : IsMeet s p c s' p' c' 0 false :=
  cand_no h h' q (fun o => by have := last_le h' o.2; omega)
theorem road_there {s p c s' p' c' n : Int} (h : Ok s p c) (h' : Ok s' p' c') (q : Cand s p s' p' n) (k : n < num s p c) (l : s + n * p ≤ last s' p' c') : IsMeet s p c s' p' c' (s + n * p) true :=
  cand_yes h h' q (on_at h q.n0 k) (on_of h' q.ge q.cg l)
theorem meet_ex {s p c s' p' c' : Int} (h : Ok s p c) (h' : Ok s' p' c') : ∃ v b, IsMeet s p c s' p' c' v b := by
  have main : ∀ {s p c s' p' c' : Int}, Ok s p c → Ok s' p' c' → s' ≤ s → ∃ v b, IsMeet s p c s' p' c' v b := by
    intro s p c s' p' c' h h' le
    obtain ⟨n, b, hn⟩ := st_ex p'.toNat p' (by have := h'.p0; omega) (by have := h'.p0; omega) p (p' - (s - s') % p')
    cases b with
    | false => exact ⟨0, false, st_never h h' rfl hn⟩
    | true =>
      have q := st_cand rfl le h.p0 hn
      by_cases k : n < num s p c
      · by_cases l : s + n * p ≤ last s' p' c'
        · exact ⟨_, _, road_there h h' q k l⟩
        · exact ⟨_, _, road_past h h' q (by omega)⟩
      · exact ⟨_, _, road_beyond h h' q (by omega)⟩
  by_cases le : s' ≤ s
  · exact main h h' le
  · obtain ⟨v, b, q⟩ := main h' h (by omega)
    exact ⟨v, b, q.comm⟩
end Go.Proofs.Ytnajpgkahnjabaa.Ev
