/- Plain mathematics of plans: times without those that spans have; the next one behind spans; numbers by the gaps between spans, and by the spans that are left; schedules counted one by one. No program stands here. -/
import Derived.Test.YtljackjcgfaanaaGreatDoorGMatO
import Derived.Test.YtljackjcgfaanaaGreatDoorMBlkP
import Derived.Test.YtljackjcgfaanaaGreatDoorMEveP
namespace Go.Proofs.YtljackjcgfaanaaGreatDoor.Pl
/-- the times that are left -/
def Kept (B : Int → Prop) (l : List (Int × Int)) (t : Int) : Prop := B t ∧ ¬ Bk.has l t
theorem kept_nil {B : Int → Prop} {t : Int} : Kept B [] t ↔ B t := by simp [Kept, Bk.has_nil]
theorem kept_snoc {B : Int → Prop} {l : List (Int × Int)} {x : Int × Int} {t : Int} : Kept B (l ++ [x]) t ↔ Kept B l t ∧ (t < x.1 ∨ x.2 < t) := by
  unfold Kept
  rw [Bk.has_append, Bk.has_one]
  constructor
  · rintro ⟨h, k⟩
    exact ⟨⟨h, fun q => k (.inl q)⟩, by have := fun q => k (.inr q); omega⟩
  · rintro ⟨⟨h, k⟩, g⟩
    exact ⟨h, fun q => by rcases q with q | q; exact k q; omega⟩

/-! the last time of the spans that have a time -/
def behK (l : List (Int × Int)) (t : Int) : Nat → Int
  | 0 => -1
  | k + 1 => if (l.getD k (0, 0)).1 ≤ t ∧ t ≤ (l.getD k (0, 0)).2 then max (behK l t k) (l.getD k (0, 0)).2 else behK l t k
def beh (l : List (Int × Int)) (t : Int) : Int := behK l t l.length
theorem behK_cases (l : List (Int × Int)) {t : Int} (h0 : 0 ≤ t) : ∀ k, k ≤ l.length → (behK l t k = -1 ∧ ∀ j, j < k → ¬ ((l.getD j (0, 0)).1 ≤ t ∧ t ≤ (l.getD j (0, 0)).2)) ∨ ∃ j, j < k ∧ (l.getD j (0, 0)).1 ≤ t ∧ t ≤ (l.getD j (0, 0)).2 ∧ behK l t k = (l.getD j (0, 0)).2
  | 0, _ => .inl ⟨rfl, fun j hj => by omega⟩
  | k + 1, hk => by
    have ih := behK_cases l h0 k (by omega)
    unfold behK
    by_cases c : (l.getD k (0, 0)).1 ≤ t ∧ t ≤ (l.getD k (0, 0)).2
    · rw [if_pos c]
      right
      rcases ih with ⟨e, _⟩ | ⟨j, hj, h1, h2, e⟩
      · exact ⟨k, by omega, c.1, c.2, by rw [e]; omega⟩
      · by_cases q : behK l t k ≤ (l.getD k (0, 0)).2
        · exact ⟨k, by omega, c.1, c.2, by omega⟩
        · exact ⟨j, by omega, h1, h2, by omega⟩
    · rw [if_neg c]
      rcases ih with ⟨e, no⟩ | ⟨j, hj, h1, h2, e⟩
      · refine .inl ⟨e, fun j hj => ?_⟩
        by_cases q : j = k
        · subst q; exact c
        · exact no j (by omega)
      · exact .inr ⟨j, by omega, h1, h2, e⟩
theorem mem_getD {l : List (Int × Int)} {x : Int × Int} (h : x ∈ l) : ∃ j, j < l.length ∧ l.getD j (0, 0) = x := by
  obtain ⟨i, hi, e⟩ := List.getElem_of_mem h
  exact ⟨i, hi, by simp [List.getD_eq_getElem?_getD, hi, e]⟩
theorem getD_mem {l : List (Int × Int)} {j : Nat} (h : j < l.length) : l.getD j (0, 0) ∈ l := by simp [List.getD_eq_getElem?_getD, h]
theorem beh_no {l : List (Int × Int)} {t : Int} (h0 : 0 ≤ t) (h : ¬ Bk.has l t) : beh l t = -1 := by
  rcases behK_cases l h0 l.length (Nat.le_refl _) with ⟨e, _⟩ | ⟨j, hj, h1, h2, _⟩
  · exact e
  · exact absurd ⟨_, getD_mem hj, h1, h2⟩ h
theorem beh_yes {l : List (Int × Int)} {t : Int} (h0 : 0 ≤ t) (h : Bk.has l t) : t ≤ beh l t ∧ (∃ x ∈ l, beh l t = x.2) ∧ ∀ u, t ≤ u → u ≤ beh l t → Bk.has l u := by
  rcases behK_cases l h0 l.length (Nat.le_refl _) with ⟨_, no⟩ | ⟨j, hj, h1, h2, e⟩
  · obtain ⟨x, hx, h1, h2⟩ := h
    obtain ⟨j, hj, rfl⟩ := mem_getD hx
    exact absurd ⟨h1, h2⟩ (no j hj)
  · have e' : beh l t = (l.getD j (0, 0)).2 := e
    rw [e']
    exact ⟨h2, ⟨_, getD_mem hj, rfl⟩, fun u k1 k2 => ⟨_, getD_mem hj, by omega, k2⟩⟩
theorem beh_neg {l : List (Int × Int)} {t : Int} (h0 : 0 ≤ t) : beh l t < 0 ↔ ¬ Bk.has l t := by
  by_cases h : Bk.has l t
  · have := (beh_yes h0 h).1
    exact ⟨fun q => by omega, fun q => absurd h q⟩
  · rw [beh_no h0 h]
    exact ⟨fun _ => h, fun _ => by omega⟩

/-! the next time -/
theorem next_none {B : Int → Prop} {l : List (Int × Int)} {t0 t M : Int} (no : ∀ y, t0 < y → y ≤ t → ¬ Kept B l y) (h : Mat.Least B (t + 1) M none) : Mat.Least (Kept B l) (t0 + 1) M none := fun y h1 h2 k => by
  by_cases q : y ≤ t
  · exact no y (by omega) q k
  · exact (show ∀ y, t + 1 ≤ y → y ≤ M → ¬ B y from h) y (by omega) h2 k.1
theorem next_hit {B : Int → Prop} {l : List (Int × Int)} {t0 t n M : Int} (ht : t0 ≤ t) (no : ∀ y, t0 < y → y ≤ t → ¬ Kept B l y) (h : Mat.Least B (t + 1) M (some n)) (f : ¬ Bk.has l n) : Mat.Least (Kept B l) (t0 + 1) M (some n) := by
  obtain ⟨h1, h2, h3, h4⟩ := h
  refine ⟨by omega, h2, ⟨h3, f⟩, fun y k1 k2 k => ?_⟩
  by_cases q : y ≤ t
  · exact no y (by omega) q k
  · exact h4 y (by omega) k2 k.1
theorem next_skip {B : Int → Prop} {l : List (Int × Int)} {t0 t n M e : Int} (no : ∀ y, t0 < y → y ≤ t → ¬ Kept B l y) (h : Mat.Least B (t + 1) M (some n)) (s : ∀ u, n ≤ u → u ≤ e → Bk.has l u) : ∀ y, t0 < y → y ≤ e → ¬ Kept B l y := fun y k1 k2 k => by
  obtain ⟨h1, h2, h3, h4⟩ := h
  by_cases q : y ≤ t
  · exact no y k1 q k
  · by_cases r : y < n
    · exact h4 y (by omega) r k.1
    · exact k.2 (s y (by omega) k2)

/-! numbers -/
theorem cnt_gone {B : Int → Prop} {l : List (Int × Int)} {a : Int} {n : Nat} (h : ∀ u, a ≤ u → u < a + n → Bk.has l u) : cntN (Kept B l) a n = 0 := cnt_zero fun k hk q => q.2 (h _ (by omega) (by omega))
theorem cnt_left {B : Int → Prop} {l : List (Int × Int)} {a : Int} {n : Nat} (h : ∀ u, a ≤ u → u < a + n → ¬ Bk.has l u) : cntN (Kept B l) a n = cntN B a n := cnt_congr fun k hk => ⟨fun q => q.1, fun q => ⟨q, h _ (by omega) (by omega)⟩⟩
/-- from t on, up to the next span -/
def upK (l : List (Int × Int)) (t b : Int) : Nat → Int
  | 0 => b
  | k + 1 => if t < (l.getD k (0, 0)).1 then min (upK l t b k) ((l.getD k (0, 0)).1 - 1) else upK l t b k
theorem upK_le (l : List (Int × Int)) {t b : Int} (h : t ≤ b) : ∀ k, t ≤ upK l t b k ∧ upK l t b k ≤ b
  | 0 => ⟨h, Int.le_refl _⟩
  | k + 1 => by
    have ih := upK_le l h k
    unfold upK
    split <;> omega
theorem upK_at (l : List (Int × Int)) (t b : Int) : ∀ k j, j < k → t < (l.getD j (0, 0)).1 → upK l t b k < (l.getD j (0, 0)).1
  | 0, j, hj, _ => by omega
  | k + 1, j, hj, h => by
    unfold upK
    by_cases e : j = k
    · subst e
      rw [if_pos h]
      omega
    · have ih := upK_at l t b k j (by omega) h
      split <;> omega
theorem upK_free {l : List (Int × Int)} {t b : Int} (no : ¬ Bk.has l t) : ∀ u, t ≤ u → u ≤ upK l t b l.length → ¬ Bk.has l u := fun u h1 h2 ⟨x, hx, k1, k2⟩ => by
  obtain ⟨j, hj, rfl⟩ := mem_getD hx
  by_cases q : t < (l.getD j (0, 0)).1
  · have := upK_at l t b l.length j hj q
    omega
  · exact no ⟨_, hx, by omega, by omega⟩
/-- one stretch without spans more -/
theorem cnt_step {B : Int → Prop} {l : List (Int × Int)} {a t b : Int} (h1 : a ≤ t) (h2 : t ≤ b) (no : ¬ Bk.has l t) : cntN (Kept B l) a (upK l t b l.length + 1 - a).toNat = cntN (Kept B l) a (t - a).toNat + cntN B t (upK l t b l.length - t + 1).toNat := by
  have u := upK_le l h2 l.length
  have e : (upK l t b l.length + 1 - a).toNat = (t - a).toNat + (upK l t b l.length - t + 1).toNat := by omega
  have e2 : a + ((t - a).toNat : Int) = t := by omega
  rw [e, cnt_add, e2, cnt_left (fun v k1 k2 => upK_free (b := b) no v k1 (by omega))]
/-- a stretch that spans have -/
theorem cnt_over {B : Int → Prop} {l : List (Int × Int)} {a t b e : Int} (h1 : a ≤ t) (h2 : t ≤ b) (te : t ≤ e) (h : ∀ u, t ≤ u → u ≤ e → Bk.has l u) : cntN (Kept B l) a (min (e + 1) (b + 1) - a).toNat = cntN (Kept B l) a (min t (b + 1) - a).toNat := by
  have e1 : (min (e + 1) (b + 1) - a).toNat = (min t (b + 1) - a).toNat + (min (e + 1) (b + 1) - t).toNat := by omega
  have e2 : a + ((min t (b + 1) - a).toNat : Int) = t := by omega
  rw [e1, cnt_add, e2, cnt_gone (fun u k1 k2 => h u k1 (by omega)), Nat.add_zero]
/-- the numbers of spans, one by one -/
noncomputable def sumN (B : Int → Prop) : List (Int × Int) → Nat
  | [] => 0
  | x :: r => cntN B x.1 (x.2 - x.1 + 1).toNat + sumN B r
theorem sumN_append (B : Int → Prop) (l m : List (Int × Int)) : sumN B (l ++ m) = sumN B l + sumN B m := by
  induction l with
  | nil => simp [sumN]
  | cons x r ih => simp only [List.cons_append, sumN, ih]; omega
theorem sumN_take (B : Int → Prop) {l : List (Int × Int)} {i : Nat} (h : i < l.length) : sumN B (l.take (i + 1)) = sumN B (l.take i) + cntN B (l.getD i (0, 0)).1 ((l.getD i (0, 0)).2 - (l.getD i (0, 0)).1 + 1).toNat := by
  have e : l.take (i + 1) = l.take i ++ [l.getD i (0, 0)] := by
    rw [List.take_add_one]
    simp [h]
  rw [e, sumN_append]
  simp [sumN]
theorem cnt_parts {B : Int → Prop} : ∀ {m : List (Int × Int)} {a b : Int}, Bk.Norm m → (∀ x ∈ m, a ≤ x.1 ∧ x.2 ≤ b) → cntN (fun t => B t ∧ Bk.has m t) a (b - a + 1).toNat = sumN B m
  | [], a, b, _, _ => cnt_zero fun k hk q => Bk.has_nil _ q.2
  | x :: r, a, b, hm, hb => by
    obtain ⟨hr, hx, hg⟩ := hm.tail
    have hx' := hb x List.mem_cons_self
    have rb : ∀ y ∈ r, x.2 + 1 ≤ y.1 ∧ y.2 ≤ b := fun y hy => ⟨by have := hg y hy; omega, (hb y (List.mem_cons_of_mem _ hy)).2⟩
    have ih := cnt_parts (B := B) (a := x.2 + 1) (b := b) hr rb
    have nr : ∀ t, t ≤ x.2 → ¬ Bk.has r t := fun t ht ⟨y, hy, k1, _⟩ => by have := (rb y hy).1; omega
    have e : (b - a + 1).toNat = (x.1 - a).toNat + ((x.2 - x.1 + 1).toNat + (b - (x.2 + 1) + 1).toNat) := by omega
    have e1 : a + ((x.1 - a).toNat : Int) = x.1 := by omega
    have e2 : x.1 + ((x.2 - x.1 + 1).toNat : Int) = x.2 + 1 := by omega
    rw [e, cnt_add, e1, cnt_add, e2, cnt_zero (n := (x.1 - a).toNat) (fun k hk q => by
      rcases Bk.has_cons.1 q.2 with c | c
      · omega
      · exact nr _ (by omega) c), Nat.zero_add, sumN, ← ih]
    congr 1
    · exact cnt_congr fun k hk => ⟨fun q => q.1, fun q => ⟨q, Bk.has_cons.2 (.inl (by omega))⟩⟩
    · exact cnt_congr fun k hk => ⟨fun q => ⟨q.1, by
        rcases Bk.has_cons.1 q.2 with c | c
        · omega
        · exact c⟩, fun q => ⟨q.1, Bk.has_cons.2 (.inr q.2)⟩⟩
/-- the numbers of what spans leave of a span -/
theorem cnt_without {B : Int → Prop} {l m : List (Int × Int)} {a b : Int} (h : Bk.IsRes [(a, b)] l 3 m) : cntN (Kept B l) a (b - a + 1).toNat = sumN B m := by
  have w : ∀ t, Bk.has m t ↔ (a ≤ t ∧ t ≤ b) ∧ ¬ Bk.has l t := fun t => by rw [h.times, Bk.want_3, Bk.has_one]
  rw [← cnt_parts (B := B) (a := a) (b := b) h.norm (fun x hx => by
    have lx := h.norm.le x hx
    have h1 := ((w x.1).1 ⟨x, hx, by omega, lx⟩).1
    have h2 := ((w x.2).1 ⟨x, hx, lx, by omega⟩).1
    omega)]
  exact cnt_congr fun k hk => ⟨fun q => ⟨q.1, (w _).2 ⟨by omega, q.2⟩⟩, fun q => ⟨q.1, ((w _).1 q.2).2⟩⟩

/-! schedules -/
theorem every_cnt {s p c : Int} (h : Ev.Ok s p c) (a : Int) : ∀ n : Nat, Ev.cnt s p c a (a + n - 1) = (cntN (Ev.On s p c) a n : Nat)
  | 0 => by unfold Ev.cnt; rw [if_pos (by omega)]; rfl
  | n + 1 => by
    have ih := every_cnt h a n
    have o := Ev.cnt_one (t := a + n) h
    have e : a + ((n + 1 : Nat) : Int) - 1 = a + n := by omega
    have key : Ev.cnt s p c a (a + n) = Ev.cnt s p c a (a + n - 1) + Ev.cnt s p c (a + n) (a + n) := by
      cases n with
      | zero =>
        have z : Ev.cnt s p c a (a + ((0 : Nat) : Int) - 1) = 0 := by unfold Ev.cnt; rw [if_pos (by omega)]
        rw [z]
        simp
      | succ n =>
        have q := Ev.cnt_sum (s := s) (p := p) (c := c) (a := a) (b := a + ((n + 1 : Nat) : Int) - 1) (d := a + ((n + 1 : Nat) : Int)) (by omega) (by omega)
        rw [← q]
        congr 2
        omega
    rw [e, key, ih]
    by_cases k : Ev.On s p c (a + n)
    · rw [cnt_yes k, o.2.2.2 k]; omega
    · have z : Ev.cnt s p c (a + n) (a + n) = 0 := by have := o.1; have := o.2.1; have := mt o.2.2.1 k; omega
      rw [cnt_no k, z]; omega
theorem every_next {s p c t v : Int} {b : Bool} (h : Ev.Ok s p c) (q : Ev.IsNext s p c t v b) : Mat.Least (Ev.On s p c) (t + 1) 253402300799 (if b = true then some v else none) := by
  rcases q with ⟨rfl, h1, h2, h3⟩ | ⟨rfl, rfl, h3⟩
  · refine ⟨by omega, (Ev.on_time h h1).2.1, h1, fun y k1 k2 k => by have := h3 y k (by omega); omega⟩
  · exact fun y k1 k2 k => by have := h3 y k; omega
end Go.Proofs.YtljackjcgfaanaaGreatDoor.Pl
