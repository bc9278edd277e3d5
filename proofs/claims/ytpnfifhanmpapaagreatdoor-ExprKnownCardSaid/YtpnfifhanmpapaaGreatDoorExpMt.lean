/- Plain mathematics of two expressions: how their days match, where both match. No program stands here. -/
import Derived.Test.YtpnfifhanmpapaaGreatDoorMExpB
namespace Go.Proofs.YtpnfifhanmpapaaGreatDoor.Exp

/-- how the days of an expression match: always, by Day, by Week, by either -/
def Ex.days (x : Ex) : Nat :=
  if x.b3 = true then (if x.b5 = true then 0 else if (x.a5 == fl 5) = true then 0 else 2)
  else if (x.a3 == fl 3) = true then 0 else if x.b5 = true then 1 else if (x.a5 == fl 5) = true then 0 else 3
/-- an expression whose days match where those of two do; is there one? -/
def withD (a b : Ex) : Ex × Bool :=
  if a.days = 0 then (b, true) else if b.days = 0 then (a, true)
  else if (a.days == b.days) = false then (zero, false)
  else if ((a.days == 3) && (!(a.a3 == b.a3) || !(a.a5 == b.a5))) = true then (zero, false)
  else (⟨a.a0, a.a1, a.a2, a.a3 &&& b.a3, a.a4, a.a5 &&& b.a5, a.b3, a.b5⟩, true)
def join (x a b : Ex) : Ex := ⟨a.a0 &&& b.a0, a.a1 &&& b.a1, a.a2 &&& b.a2, x.a3, a.a4 &&& b.a4, x.a5, x.b3, x.b5⟩
/-- has an expression a number in each field? -/
def Ex.full (x : Ex) : Bool := (List.range 6).all fun i => !(x.at i == 0)
/-- what Both returns -/
def both (a b : Ex) : Ex × Bool × Nat :=
  if (a.okB && b.okB) = true then
    if (withD a b).2 = true then
      if (join (withD a b).1 a b).full = true then (join (withD a b).1 a b, true, 0) else (zero, false, 0)
    else (zero, false, 2)
  else (zero, false, 16)

/-! where an expression matches -/
def Ex.dm (x : Ex) (p3 p5 : Nat) : Bool :=
  if x.b3 = true then (if x.b5 = true then true else x.a5.testBit p5) else if x.b5 = true then x.a3.testBit p3 else (x.a3.testBit p3 || x.a5.testBit p5)
def Ex.mat (x : Ex) (p : Nat → Nat) : Bool := x.dm (p 3) (p 5) && (x.a0.testBit (p 0) && (x.a1.testBit (p 1) && (x.a2.testBit (p 2) && x.a4.testBit (p 4))))
theorem dm_free {x : Ex} {p3 p5 : Nat} (h : x.days = 0) (h3 : (fl 3).testBit p3 = true) (h5 : (fl 5).testBit p5 = true) : x.dm p3 p5 = true := by
  unfold Ex.days at h
  unfold Ex.dm
  cases e3 : x.b3 <;> cases e5 : x.b5 <;> simp only [e3, e5, Bool.false_eq_true, if_true, if_false] at h ⊢
  · by_cases a : (x.a3 == fl 3) = true
    · rw [beq_iff_eq.1 a, h3]; rfl
    · rw [if_neg a] at h
      by_cases b : (x.a5 == fl 5) = true
      · rw [beq_iff_eq.1 b, h5]; simp
      · rw [if_neg b] at h; cases h
  · by_cases a : (x.a3 == fl 3) = true
    · rw [beq_iff_eq.1 a, h3]
    · rw [if_neg a] at h; cases h
  · by_cases b : (x.a5 == fl 5) = true
    · rw [beq_iff_eq.1 b, h5]
    · rw [if_neg b] at h; cases h
theorem days_stars (x : Ex) : (x.days = 1 → x.b3 = false ∧ x.b5 = true) ∧ (x.days = 2 → x.b3 = true ∧ x.b5 = false) ∧ (x.days = 3 → x.b3 = false ∧ x.b5 = false) ∧ x.days ≤ 3 := by
  unfold Ex.days
  cases e3 : x.b3 <;> cases e5 : x.b5 <;> simp only [Bool.false_eq_true, if_true, if_false] <;> (repeat' split) <;> simp_all
theorem and_ne {S : Nat} (h : S ≠ 0) : S &&& S ≠ 0 := by rw [Nat.and_self]; exact h
theorem bit_zero {S : Nat} (h : S = 0) (v : Nat) : S.testBit v = false := by rw [h]; simp
/-- the parts of two kinds of days -/
theorem withD_cases (a b : Ex) : (a.days = 0 ∧ withD a b = (b, true)) ∨ (a.days ≠ 0 ∧ b.days = 0 ∧ withD a b = (a, true)) ∨
    (a.days ≠ 0 ∧ b.days ≠ 0 ∧ (a.days ≠ b.days ∨ a.days = 3 ∧ (a.a3 ≠ b.a3 ∨ a.a5 ≠ b.a5)) ∧ withD a b = (zero, false)) ∨
    (a.days ≠ 0 ∧ a.days = b.days ∧ (a.days = 3 → a.a3 = b.a3 ∧ a.a5 = b.a5) ∧ withD a b = (⟨a.a0, a.a1, a.a2, a.a3 &&& b.a3, a.a4, a.a5 &&& b.a5, a.b3, a.b5⟩, true)) := by
  unfold withD
  by_cases h1 : a.days = 0
  · exact .inl ⟨h1, by rw [if_pos h1]⟩
  by_cases h2 : b.days = 0
  · exact .inr (.inl ⟨h1, h2, by rw [if_neg h1, if_pos h2]⟩)
  by_cases h3 : a.days = b.days
  · have e : ¬ (a.days == b.days) = false := by rw [beq_iff_eq.2 h3]; simp
    by_cases h4 : ((a.days == 3) && (!(a.a3 == b.a3) || !(a.a5 == b.a5))) = true
    · refine .inr (.inr (.inl ⟨h1, h2, .inr ?_, by rw [if_neg h1, if_neg h2, if_neg e, if_pos h4]⟩))
      simpa using h4
    · refine .inr (.inr (.inr ⟨h1, h3, fun q => ?_, by rw [if_neg h1, if_neg h2, if_neg e, if_neg h4]⟩))
      rw [q] at h4
      simpa using h4
  · exact .inr (.inr (.inl ⟨h1, h2, .inl h3, by rw [if_neg h1, if_neg h2, if_pos (beq_eq_false_iff_ne.2 h3)]⟩))
/-- the days of the result match where both do -/
theorem withD_dm {a b v : Ex} {p3 p5 : Nat} (h : withD a b = (v, true)) (h3 : (fl 3).testBit p3 = true) (h5 : (fl 5).testBit p5 = true) : v.dm p3 p5 = (a.dm p3 p5 && b.dm p3 p5) := by
  rcases withD_cases a b with ⟨q, e⟩ | ⟨_, q, e⟩ | ⟨_, _, _, e⟩ | ⟨q0, q, q3, e⟩ <;> rw [e] at h
  · cases h; rw [dm_free q h3 h5]; simp
  · cases h; rw [dm_free q h3 h5]; simp
  · cases h
  · cases h
    obtain ⟨s1, s2, s3, s4⟩ := days_stars a
    obtain ⟨r1, r2, r3, _⟩ := days_stars b
    have k : a.days = 1 ∨ a.days = 2 ∨ a.days = 3 := by omega
    unfold Ex.dm
    rcases k with k | k | k
    · obtain ⟨u, v⟩ := s1 k
      obtain ⟨u', v'⟩ := r1 (by omega)
      simp [u, v, u', v', Nat.testBit_and]
    · obtain ⟨u, v⟩ := s2 k
      obtain ⟨u', v'⟩ := r2 (by omega)
      simp [u, v, u', v', Nat.testBit_and]
    · obtain ⟨u, v⟩ := s3 k
      obtain ⟨u', v'⟩ := r3 (by omega)
      obtain ⟨e1, e2⟩ := q3 k
      simp [u, v, u', v', e1, e2]
theorem join_mat {a b v : Ex} {p : Nat → Nat} (h : withD a b = (v, true)) (h3 : (fl 3).testBit (p 3) = true) (h5 : (fl 5).testBit (p 5) = true) : (join v a b).mat p = (a.mat p && b.mat p) := by
  have d := withD_dm h h3 h5
  have e : (join v a b).dm (p 3) (p 5) = v.dm (p 3) (p 5) := rfl
  unfold Ex.mat
  rw [e, d]
  unfold join
  simp only [Nat.testBit_and]
  generalize a.dm (p 3) (p 5) = x1
  generalize b.dm (p 3) (p 5) = x2
  generalize a.a0.testBit (p 0) = y1
  generalize b.a0.testBit (p 0) = y2
  generalize a.a1.testBit (p 1) = z1
  generalize b.a1.testBit (p 1) = z2
  generalize a.a2.testBit (p 2) = u1
  generalize b.a2.testBit (p 2) = u2
  generalize a.a4.testBit (p 4) = t1
  generalize b.a4.testBit (p 4) = t2
  cases x1 <;> cases x2 <;> cases y1 <;> cases y2 <;> cases z1 <;> cases z2 <;> cases u1 <;> cases u2 <;> cases t1 <;> cases t2 <;> rfl
theorem full_iff (x : Ex) : x.full = true ↔ x.a0 ≠ 0 ∧ x.a1 ≠ 0 ∧ x.a2 ≠ 0 ∧ x.a3 ≠ 0 ∧ x.a4 ≠ 0 ∧ x.a5 ≠ 0 := by
  have e : x.full = (!(x.a0 == 0) && (!(x.a1 == 0) && (!(x.a2 == 0) && (!(x.a3 == 0) && (!(x.a4 == 0) && (!(x.a5 == 0) && true)))))) := rfl
  rw [e]
  simp
theorem fl_self (i : Nat) : fl i &&& fl i = fl i := Nat.and_self _
theorem fl_ne (i : Nat) (h : i < 6) : fl i ≠ 0 := six_cases h (P := fun i => fl i ≠ 0) (by decide +kernel) (by decide +kernel) (by decide +kernel) (by decide +kernel) (by decide +kernel) (by decide +kernel)
/-- Day and Week of the result: are they empty? -/
theorem withD_ne {a b v : Ex} (ha : a.Ok) (hb : b.Ok) (h : withD a b = (v, true)) : (v.a3 ≠ 0 ∧ v.a5 ≠ 0) ∨ (∀ p3 p5, v.dm p3 p5 = false) := by
  rcases withD_cases a b with ⟨q, e⟩ | ⟨_, q, e⟩ | ⟨_, _, _, e⟩ | ⟨q0, q, q3, e⟩ <;> rw [e] at h
  · cases h; exact .inl ⟨hb.ne 3 (by decide), hb.ne 5 (by decide)⟩
  · cases h; exact .inl ⟨ha.ne 3 (by decide), ha.ne 5 (by decide)⟩
  · cases h
  · cases h
    obtain ⟨s1, s2, s3, s4⟩ := days_stars a
    obtain ⟨r1, r2, r3, _⟩ := days_stars b
    have k : a.days = 1 ∨ a.days = 2 ∨ a.days = 3 := by omega
    rcases k with k | k | k
    · obtain ⟨u, v⟩ := s1 k
      obtain ⟨u', v'⟩ := r1 (by omega)
      by_cases z : a.a3 &&& b.a3 = 0
      · refine .inr fun p3 p5 => ?_
        unfold Ex.dm
        simp only [u, v, z]
        simp
      · refine .inl ⟨z, ?_⟩
        show a.a5 &&& b.a5 ≠ 0
        rw [ha.w v, hb.w v', fl_self]
        exact fl_ne 5 (by decide)
    · obtain ⟨u, v⟩ := s2 k
      obtain ⟨u', v'⟩ := r2 (by omega)
      by_cases z : a.a5 &&& b.a5 = 0
      · refine .inr fun p3 p5 => ?_
        unfold Ex.dm
        simp only [u, v, z]
        simp
      · refine .inl ⟨?_, z⟩
        show a.a3 &&& b.a3 ≠ 0
        rw [ha.d u, hb.d u', fl_self]
        exact fl_ne 3 (by decide)
    · obtain ⟨e1, e2⟩ := q3 k
      refine .inl ⟨?_, ?_⟩
      · show a.a3 &&& b.a3 ≠ 0
        rw [← e1]; exact and_ne (ha.ne 3 (by decide))
      · show a.a5 &&& b.a5 ≠ 0
        rw [← e2]; exact and_ne (ha.ne 5 (by decide))
/-- if a field of the result is empty, both never match together -/
theorem join_none {a b v : Ex} {p : Nat → Nat} (ha : a.Ok) (hb : b.Ok) (h : withD a b = (v, true)) (hf : (join v a b).full = false) (h3 : (fl 3).testBit (p 3) = true) (h5 : (fl 5).testBit (p 5) = true) : (a.mat p && b.mat p) = false := by
  rw [← join_mat h h3 h5]
  have nf : ¬ (join v a b).full = true := by rw [hf]; simp
  rw [full_iff] at nf
  rcases withD_ne ha hb h with ⟨n3, n5⟩ | n
  · have k : (join v a b).a0 = 0 ∨ (join v a b).a1 = 0 ∨ (join v a b).a2 = 0 ∨ (join v a b).a4 = 0 := by
      refine Classical.byContradiction fun q => nf ?_
      rw [not_or, not_or, not_or] at q
      exact ⟨q.1, q.2.1, q.2.2.1, n3, q.2.2.2, n5⟩
    unfold Ex.mat
    rcases k with k | k | k | k <;> rw [bit_zero k] <;> simp
  · have e : (join v a b).dm (p 3) (p 5) = v.dm (p 3) (p 5) := rfl
    unfold Ex.mat
    rw [e, n]
    rfl
theorem in_and {K : Fld.Kd} {S T : Nat} (h : Fld.In K S) : Fld.In K (S &&& T) := fun v hv => h v (by rw [Nat.testBit_and] at hv; simp only [Bool.and_eq_true] at hv; exact hv.1)
theorem withD_in {a b v : Ex} (ha : a.Ok) (hb : b.Ok) (h : withD a b = (v, true)) : Fld.In (kd6 3) v.a3 ∧ Fld.In (kd6 5) v.a5 ∧ (v.b3 = true → v.a3 = fl 3) ∧ (v.b5 = true → v.a5 = fl 5) := by
  rcases withD_cases a b with ⟨q, e⟩ | ⟨_, q, e⟩ | ⟨_, _, _, e⟩ | ⟨q0, q, q3, e⟩ <;> rw [e] at h
  · cases h; exact ⟨hb.inn 3 (by decide), hb.inn 5 (by decide), hb.d, hb.w⟩
  · cases h; exact ⟨ha.inn 3 (by decide), ha.inn 5 (by decide), ha.d, ha.w⟩
  · cases h
  · cases h
    obtain ⟨s1, s2, s3, s4⟩ := days_stars a
    obtain ⟨r1, r2, r3, _⟩ := days_stars b
    have k : a.days = 1 ∨ a.days = 2 ∨ a.days = 3 := by omega
    refine ⟨in_and (ha.inn 3 (by decide)), in_and (ha.inn 5 (by decide)), fun u => ?_, fun u => ?_⟩
    · show a.a3 &&& b.a3 = fl 3
      rcases k with k | k | k
      · rw [(s1 k).1] at u; cases u
      · rw [ha.d u, hb.d (r2 (by omega)).1, fl_self]
      · rw [(s3 k).1] at u; cases u
    · show a.a5 &&& b.a5 = fl 5
      rcases k with k | k | k
      · rw [ha.w u, hb.w (r1 (by omega)).2, fl_self]
      · rw [(s2 k).2] at u; cases u
      · rw [(s3 k).2] at u; cases u
theorem join_ok {a b v : Ex} (ha : a.Ok) (hb : b.Ok) (h : withD a b = (v, true)) (hf : (join v a b).full = true) : (join v a b).Ok := by
  obtain ⟨n0, n1, n2, n3, n4, n5⟩ := (full_iff _).1 hf
  obtain ⟨i3, i5, d3, d5⟩ := withD_in ha hb h
  exact ⟨fun i hi => six_cases hi (P := fun i => (join v a b).at i ≠ 0) n0 n1 n2 n3 n4 n5,
    fun i hi => six_cases hi (P := fun i => Fld.In (kd6 i) ((join v a b).at i)) (in_and (ha.inn 0 (by decide))) (in_and (ha.inn 1 (by decide))) (in_and (ha.inn 2 (by decide))) i3 (in_and (ha.inn 4 (by decide))) i5, d3, d5⟩
/-- the order of both does not matter for whether there is a result -/
theorem withD_turn {a b : Ex} (h : (withD a b).2 = true) : (withD b a).2 = true := by
  rcases withD_cases a b with ⟨q, e⟩ | ⟨_, q, e⟩ | ⟨_, _, _, e⟩ | ⟨q0, q, q3, e⟩
  · unfold withD
    by_cases hb : b.days = 0
    · rw [if_pos hb]
    · rw [if_neg hb, if_pos q]
  · unfold withD
    rw [if_pos q]
  · rw [e] at h; cases h
  · rcases withD_cases b a with ⟨r, f⟩ | ⟨_, r, f⟩ | ⟨r1, r2, r, f⟩ | ⟨_, _, _, f⟩
    · rw [f]
    · rw [f]
    · exfalso
      rcases r with r | ⟨r, r'⟩
      · omega
      · obtain ⟨e1, e2⟩ := q3 (by omega)
        rcases r' with r' | r'
        · exact r' e1.symm
        · exact r' e2.symm
    · rw [f]
theorem withD_comm (a b : Ex) : (withD a b).2 = (withD b a).2 := by
  cases h : (withD a b).2 with
  | true => rw [withD_turn h]
  | false =>
    cases k : (withD b a).2 with
    | false => rfl
    | true => rw [withD_turn k] at h; cases h
theorem withD_zero {a b v u : Ex} (ha : a.Ok) (hb : b.Ok) (h : withD a b = (v, true)) (k : withD b a = (u, true)) : (v.a3 = 0 ↔ u.a3 = 0) ∧ (v.a5 = 0 ↔ u.a5 = 0) := by
  have a3 := ha.ne 3 (by decide)
  have a5 := ha.ne 5 (by decide)
  have b3 := hb.ne 3 (by decide)
  have b5 := hb.ne 5 (by decide)
  simp only [Ex.at] at a3 a5 b3 b5
  rcases withD_cases a b with ⟨q, e⟩ | ⟨q', q, e⟩ | ⟨_, _, _, e⟩ | ⟨q0, q, q3, e⟩ <;> rcases withD_cases b a with ⟨r, f⟩ | ⟨r', r, f⟩ | ⟨_, _, _, f⟩ | ⟨r0, r, r3, f⟩ <;> rw [e] at h <;> rw [f] at k <;> cases h <;> cases k
  all_goals first
    | exact ⟨⟨fun z => absurd z a3, fun z => absurd z b3⟩, ⟨fun z => absurd z a5, fun z => absurd z b5⟩⟩
    | exact ⟨⟨fun z => absurd z b3, fun z => absurd z a3⟩, ⟨fun z => absurd z b5, fun z => absurd z a5⟩⟩
    | exact ⟨Iff.rfl, Iff.rfl⟩
    | (exfalso; omega)
    | exact ⟨by (show a.a3 &&& b.a3 = 0 ↔ b.a3 &&& a.a3 = 0); rw [Nat.and_comm], by (show a.a5 &&& b.a5 = 0 ↔ b.a5 &&& a.a5 = 0); rw [Nat.and_comm]⟩
theorem join_full {a b v u : Ex} (ha : a.Ok) (hb : b.Ok) (h : withD a b = (v, true)) (k : withD b a = (u, true)) : (join v a b).full = (join u b a).full := by
  obtain ⟨z3, z5⟩ := withD_zero ha hb h k
  rw [Bool.eq_iff_iff, full_iff, full_iff]
  show (a.a0 &&& b.a0 ≠ 0 ∧ a.a1 &&& b.a1 ≠ 0 ∧ a.a2 &&& b.a2 ≠ 0 ∧ v.a3 ≠ 0 ∧ a.a4 &&& b.a4 ≠ 0 ∧ v.a5 ≠ 0) ↔ (b.a0 &&& a.a0 ≠ 0 ∧ b.a1 &&& a.a1 ≠ 0 ∧ b.a2 &&& a.a2 ≠ 0 ∧ u.a3 ≠ 0 ∧ b.a4 &&& a.a4 ≠ 0 ∧ u.a5 ≠ 0)
  simp only [Nat.and_comm a.a0, Nat.and_comm a.a1, Nat.and_comm a.a2, Nat.and_comm a.a4, ne_eq, z3, z5]
/-- what Both returns for two valid expressions, both ways -/
theorem both_meet {a b : Ex} (ha : a.Ok) (hb : b.Ok) (okA : a.okB = true) (okB : b.okB = true) :
    ∃ x y is e, both a b = (x, is, e) ∧ both b a = (y, is, e) ∧
      ((e = 2 ∧ is = false ∧ x = zero ∧ y = zero ∧ ((a.b3 = false ∧ a.b5 = false) ∨ (b.b3 = false ∧ b.b5 = false) ∨ a.b3 ≠ b.b3)) ∨
       (e = 0 ∧ is = true ∧ x.Ok ∧ y.Ok ∧ ∀ p : Nat → Nat, (fl 3).testBit (p 3) = true → (fl 5).testBit (p 5) = true → x.mat p = (a.mat p && b.mat p) ∧ y.mat p = (a.mat p && b.mat p)) ∨
       (e = 0 ∧ is = false ∧ x = zero ∧ y = zero ∧ ∀ p : Nat → Nat, (fl 3).testBit (p 3) = true → (fl 5).testBit (p 5) = true → (a.mat p && b.mat p) = false)) := by
  unfold both
  rw [okA, okB]
  simp only [Bool.and_self, if_true]
  obtain ⟨⟨v, vi⟩, hv⟩ : ∃ r, withD a b = r := ⟨_, rfl⟩
  obtain ⟨⟨u, ui⟩, hu⟩ : ∃ r, withD b a = r := ⟨_, rfl⟩
  have c := withD_comm a b
  rw [hv, hu] at c
  simp only at c
  subst c
  rw [hv, hu]
  cases vi with
  | false =>
    refine ⟨zero, zero, false, 2, rfl, rfl, .inl ⟨rfl, rfl, rfl, rfl, ?_⟩⟩
    rcases withD_cases a b with ⟨_, e⟩ | ⟨_, _, e⟩ | ⟨h1, h2, h3, _⟩ | ⟨_, _, _, e⟩
    · rw [e] at hv; cases hv
    · rw [e] at hv; cases hv
    · obtain ⟨s1, s2, s3, s4⟩ := days_stars a
      obtain ⟨r1, r2, r3, r4⟩ := days_stars b
      by_cases k : a.days = 3
      · exact .inl (s3 k)
      · by_cases l : b.days = 3
        · exact .inr (.inl (r3 l))
        · have h4 : a.days ≠ b.days := by
            rcases h3 with h3 | ⟨h3, _⟩
            · exact h3
            · exact absurd h3 k
          refine .inr (.inr fun q => ?_)
          have : a.days = 1 ∧ b.days = 2 ∨ a.days = 2 ∧ b.days = 1 := by omega
          rcases this with ⟨i, j⟩ | ⟨i, j⟩
          · rw [(s1 i).1, (r2 j).1] at q; cases q
          · rw [(s2 i).1, (r1 j).1] at q; cases q
    · rw [e] at hv; cases hv
  | true =>
    simp only [if_true]
    have f := join_full ha hb hv hu
    cases g : (join v a b).full with
    | true =>
      rw [g] at f
      rw [← f]
      simp only [if_true]
      refine ⟨_, _, true, 0, rfl, rfl, .inr (.inl ⟨rfl, rfl, join_ok ha hb hv g, join_ok hb ha hu f.symm, fun p h3 h5 => ⟨join_mat hv h3 h5, ?_⟩⟩)⟩
      rw [join_mat hu h3 h5, Bool.and_comm]
    | false =>
      rw [g] at f
      rw [← f]
      simp only [Bool.false_eq_true, if_false]
      exact ⟨_, _, false, 0, rfl, rfl, .inr (.inr ⟨rfl, rfl, rfl, rfl, fun p h3 h5 => join_none ha hb hv g h3 h5⟩)⟩
end Go.Proofs.YtpnfifhanmpapaaGreatDoor.Exp
