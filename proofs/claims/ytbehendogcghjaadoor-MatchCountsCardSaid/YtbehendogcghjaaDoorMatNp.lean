/- Plain mathematics of counting: how many numbers of a span have a property; the matched seconds of a day, the matched days of a span, cycles of 400 years. -/
import Derived.Test.YtbehendogcghjaaDoorMatM
namespace Go.Proofs.YtbehendogcghjaaDoor
open Go.ChangeShapes Go.RowKit

/-- how many of so many numbers, from one on, have a property -/
noncomputable def cntN (P : Int → Prop) (a : Int) : Nat → Nat
  | 0 => 0
  | n + 1 => cntN P a n + @ite Nat (P (a + (n : Nat))) (Classical.propDecidable _) 1 0
theorem cnt_yes {P : Int → Prop} {a : Int} {n : Nat} (h : P (a + (n : Nat))) : cntN P a (n + 1) = cntN P a n + 1 := by rw [cntN, if_pos h]
theorem cnt_no {P : Int → Prop} {a : Int} {n : Nat} (h : ¬ P (a + (n : Nat))) : cntN P a (n + 1) = cntN P a n := by rw [cntN, if_neg h, Nat.add_zero]
theorem cnt_add (P : Int → Prop) (a : Int) (m : Nat) : ∀ n : Nat, cntN P a (m + n) = cntN P a m + cntN P (a + (m : Nat)) n
  | 0 => rfl
  | n + 1 => by
    have e : a + ((m + n : Nat) : Int) = a + (m : Nat) + (n : Nat) := by omega
    rw [show m + (n + 1) = (m + n) + 1 by omega, cntN, cnt_add P a m n, e, cntN, Nat.add_assoc]
theorem cnt_congr {P Q : Int → Prop} {a b : Int} : ∀ {n : Nat}, (∀ k : Nat, k < n → (P (a + (k : Nat)) ↔ Q (b + (k : Nat)))) → cntN P a n = cntN Q b n
  | 0, _ => rfl
  | n + 1, h => by
    have ih := cnt_congr (P := P) (Q := Q) (a := a) (b := b) (n := n) (fun k hk => h k (by omega))
    by_cases c : P (a + (n : Nat))
    · rw [cnt_yes c, cnt_yes ((h n (by omega)).1 c), ih]
    · rw [cnt_no c, cnt_no (fun q => c ((h n (by omega)).2 q)), ih]
theorem cnt_zero {P : Int → Prop} {a : Int} : ∀ {n : Nat}, (∀ k : Nat, k < n → ¬ P (a + (k : Nat))) → cntN P a n = 0
  | 0, _ => rfl
  | n + 1, h => by rw [cnt_no (h n (by omega)), cnt_zero (fun k hk => h k (by omega))]
theorem cnt_le (P : Int → Prop) (a : Int) : ∀ n : Nat, cntN P a n ≤ n
  | 0 => Nat.le_refl _
  | n + 1 => by
    have := cnt_le P a n
    by_cases c : P (a + (n : Nat))
    · rw [cnt_yes c]; omega
    · rw [cnt_no c]; omega

/-! the seconds of a day -/
theorem memTo_nil (S : Nat) : Bit.memTo S 0 = [] := rfl
theorem memTo_len_succ (S k : Nat) : (Bit.memTo S (k + 1)).length = (Bit.memTo S k).length + if S.testBit k = true then 1 else 0 := by
  rw [Bit.memTo_succ]
  split
  · simp
  · simp
theorem memTo_big {S k : Nat} (h : ∀ v, S.testBit v = true → v < k) : ∀ m, k ≤ m → (Bit.memTo S m).length = (Bit.memTo S k).length := by
  intro m
  induction m with
  | zero => intro hk; obtain rfl : k = 0 := by omega
            rfl
  | succ m ih =>
    intro hk
    by_cases e : k = m + 1
    · rw [e]
    · rw [memTo_len_succ, if_neg, ih (by omega)]
      · rfl
      · intro hb
        have := h m hb
        omega
/-- is a second of a day matched -/
def Exp.Ex.ck (x : Exp.Ex) (t : Int) : Prop := Mat.Ck x.a2 x.a1 x.a0 t
theorem ck_at {x : Exp.Ex} {h i s : Nat} (h1 : h < 24) (h2 : i < 60) (h3 : s < 60) : x.ck ((3600 * h + 60 * i + s : Nat) : Int) ↔ x.a2.testBit h = true ∧ x.a1.testBit i = true ∧ x.a0.testBit s = true := by
  unfold Exp.Ex.ck Mat.Ck
  rw [Mat.clk_at h2 h3]
  simp only [Bool.and_eq_true]
  constructor
  · exact fun h => h.2.2
  · exact fun h => ⟨by omega, by omega, h⟩
theorem cnt_sec (x : Exp.Ex) {h i : Nat} (h1 : h < 24) (h2 : i < 60) : ∀ k : Nat, k ≤ 60 → cntN x.ck ((3600 * h + 60 * i : Nat) : Int) k = if x.a2.testBit h = true ∧ x.a1.testBit i = true then (Bit.memTo x.a0 k).length else 0
  | 0, _ => by simp [cntN, memTo_nil]
  | k + 1, hk => by
    have ih := cnt_sec x h1 h2 k (by omega)
    have e : ((3600 * h + 60 * i : Nat) : Int) + (k : Nat) = ((3600 * h + 60 * i + k : Nat) : Int) := by omega
    have c := ck_at (x := x) h1 h2 (show k < 60 by omega)
    rw [cntN, ih, e]
    by_cases q : x.a2.testBit h = true ∧ x.a1.testBit i = true
    · rw [if_pos q, if_pos q, memTo_len_succ]
      by_cases g : x.a0.testBit k = true
      · rw [if_pos (c.2 ⟨q.1, q.2, g⟩), if_pos g]
      · rw [if_neg (fun r => g (c.1 r).2.2), if_neg g]
    · rw [if_neg q, if_neg q, if_neg (fun r => q ⟨(c.1 r).1, (c.1 r).2.1⟩)]
theorem cnt_min {x : Exp.Ex} (hok : x.Ok) {h : Nat} (h1 : h < 24) : ∀ i : Nat, i ≤ 60 → cntN x.ck ((3600 * h : Nat) : Int) (60 * i) = if x.a2.testBit h = true then (Bit.mem x.a0).length * (Bit.memTo x.a1 i).length else 0
  | 0, _ => by simp [cntN, memTo_nil]
  | i + 1, hi => by
    have ih := cnt_min hok h1 i (by omega)
    have s := cnt_sec x h1 (show i < 60 by omega) 60 (Nat.le_refl _)
    have e : ((3600 * h : Nat) : Int) + ((60 * i : Nat) : Int) = ((3600 * h + 60 * i : Nat) : Int) := by omega
    have m : (Bit.memTo x.a0 60).length = (Bit.mem x.a0).length := by rw [← Bit.memTo_all, memTo_big (fun v hv => Nat.lt_succ_of_le (bit0 hok hv)) 64 (by omega)]
    rw [show 60 * (i + 1) = 60 * i + 60 by omega, cnt_add, ih, e, s, m, memTo_len_succ]
    by_cases q : x.a2.testBit h = true
    · rw [if_pos q, if_pos q]
      by_cases g : x.a1.testBit i = true
      · rw [if_pos ⟨q, g⟩, if_pos g, Nat.mul_add, Nat.mul_one]
      · rw [if_neg (fun r => g r.2), if_neg g]
        rfl
    · rw [if_neg q, if_neg q, if_neg (fun r => q r.1)]
theorem cnt_hour {x : Exp.Ex} (hok : x.Ok) : ∀ h : Nat, h ≤ 24 → cntN x.ck 0 (3600 * h) = (Bit.mem x.a0).length * (Bit.mem x.a1).length * (Bit.memTo x.a2 h).length
  | 0, _ => by simp [cntN, memTo_nil]
  | h + 1, hh => by
    have ih := cnt_hour hok h (by omega)
    have s := cnt_min hok (show h < 24 by omega) 60 (Nat.le_refl _)
    have e : (0 : Int) + ((3600 * h : Nat) : Int) = ((3600 * h : Nat) : Int) := by omega
    have m : (Bit.memTo x.a1 60).length = (Bit.mem x.a1).length := by rw [← Bit.memTo_all, memTo_big (fun v hv => Nat.lt_succ_of_le (bit1 hok hv)) 64 (by omega)]
    rw [show 3600 * (h + 1) = 3600 * h + 60 * 60 by omega, cnt_add, ih, e, s, m, memTo_len_succ]
    by_cases q : x.a2.testBit h = true
    · rw [if_pos q, if_pos q, Nat.mul_add, Nat.mul_one]
    · rw [if_neg q, if_neg q]
      rfl
/-- the matched seconds of a day -/
theorem cnt_day {x : Exp.Ex} (hok : x.Ok) : cntN x.ck 0 86400 = x.secs := by
  have h := cnt_hour hok 24 (Nat.le_refl _)
  have m : (Bit.memTo x.a2 24).length = (Bit.mem x.a2).length := by rw [← Bit.memTo_all, memTo_big (fun v hv => Nat.lt_succ_of_le (bit2 hok hv)) 64 (by omega)]
  rw [m] at h
  exact h
/-- .. before one of them -/
theorem cnt_before {x : Exp.Ex} (hok : x.Ok) {h i s : Nat} (h1 : h < 24) (h2 : i < 60) (h3 : s < 60) : cntN x.ck 0 (3600 * h + 60 * i + s) = (Bit.mem x.a0).length * (Bit.mem x.a1).length * (Bit.memTo x.a2 h).length +
    if x.a2.testBit h = true then (Bit.mem x.a0).length * (Bit.memTo x.a1 i).length + (if x.a1.testBit i = true then (Bit.memTo x.a0 s).length else 0) else 0 := by
  have a := cnt_hour hok h (by omega)
  have b := cnt_min hok h1 i (by omega)
  have c := cnt_sec x h1 h2 s (by omega)
  have e1 : (0 : Int) + ((3600 * h : Nat) : Int) = ((3600 * h : Nat) : Int) := by omega
  have e2 : (0 : Int) + ((3600 * h + 60 * i : Nat) : Int) = ((3600 * h + 60 * i : Nat) : Int) := by omega
  rw [cnt_add, cnt_add, e1, e2, a, b, c]
  by_cases q : x.a2.testBit h = true
  · rw [if_pos q, if_pos q]
    by_cases g : x.a1.testBit i = true
    · rw [if_pos ⟨q, g⟩, if_pos g]; omega
    · rw [if_neg (fun r => g r.2), if_neg g]; omega
  · rw [if_neg q, if_neg q, if_neg (fun r => q r.1)]

/-! days and seconds -/
theorem cnt_in_day (x : Exp.Ex) (n : Nat) {k : Nat} (hk : k ≤ 86400) : cntN x.Lm ((86400 * n : Nat) : Int) k = @ite Nat (x.On n) (Classical.propDecidable _) (cntN x.ck 0 k) 0 := by
  by_cases c : x.On n
  · rw [if_pos c]
    refine cnt_congr fun j hj => ?_
    rw [lm_iff]
    have e1 : (((86400 * n : Nat) : Int) + (j : Nat)) / 86400 = n := by omega
    have e2 : (((86400 * n : Nat) : Int) + (j : Nat)) % 86400 = 0 + (j : Nat) := by omega
    rw [e1, e2]
    exact ⟨fun h => h.2, fun h => ⟨c, h⟩⟩
  · rw [if_neg c]
    refine cnt_zero fun j hj => ?_
    rw [lm_iff]
    have e1 : (((86400 * n : Nat) : Int) + (j : Nat)) / 86400 = n := by omega
    rw [e1]
    exact fun h => c h.1
theorem cnt_days {x : Exp.Ex} (hok : x.Ok) : ∀ n : Nat, cntN x.Lm 0 (86400 * n) = x.secs * cntN x.On 0 n
  | 0 => by simp [cntN]
  | n + 1 => by
    have ih := cnt_days hok n
    have d := cnt_in_day x n (Nat.le_refl 86400)
    have e : (0 : Int) + ((86400 * n : Nat) : Int) = ((86400 * n : Nat) : Int) := by omega
    have e0 : (0 : Int) + (n : Nat) = (n : Int) := by omega
    rw [show 86400 * (n + 1) = 86400 * n + 86400 by omega, cnt_add, ih, e, d]
    by_cases c : x.On n
    · rw [if_pos c, cnt_day hok, cnt_yes (by rw [e0]; exact c), Nat.mul_add, Nat.mul_one]
    · rw [if_neg c, cnt_no (by rw [e0]; exact c), Nat.add_zero]
/-- the matched seconds of the day of a second that lie before it -/
noncomputable def sinceN (x : Exp.Ex) (t : Nat) : Nat := @ite Nat (x.On (t / 86400 : Nat)) (Classical.propDecidable _) (cntN x.ck 0 (t % 86400)) 0
theorem cnt_to {x : Exp.Ex} (hok : x.Ok) (t : Nat) : cntN x.Lm 0 t = x.secs * cntN x.On 0 (t / 86400) + sinceN x t := by
  have e : (0 : Int) + ((86400 * (t / 86400) : Nat) : Int) = ((86400 * (t / 86400) : Nat) : Int) := by omega
  have h : t = 86400 * (t / 86400) + t % 86400 := by omega
  conv => lhs; rw [h]
  rw [cnt_add, cnt_days hok, e, cnt_in_day x (t / 86400) (by omega)]
  rfl
/-- **the count of a span**: whole days, and what lies before its ends -/
theorem cnt_span {x : Exp.Ex} (hok : x.Ok) {f e : Nat} (h : f ≤ e) : cntN x.Lm (f : Int) (e - f) + sinceN x f = x.secs * cntN x.On ((f / 86400 : Nat) : Int) (e / 86400 - f / 86400) + sinceN x e := by
  have a := cnt_to hok f
  have b := cnt_to hok e
  have c := cnt_add x.Lm 0 f (e - f)
  have d := cnt_add x.On 0 (f / 86400) (e / 86400 - f / 86400)
  have e1 : (0 : Int) + (f : Nat) = (f : Int) := by omega
  have e2 : (0 : Int) + ((f / 86400 : Nat) : Int) = ((f / 86400 : Nat) : Int) := by omega
  have l : f / 86400 ≤ e / 86400 := Nat.div_le_div_right h
  rw [show f + (e - f) = e by omega, e1] at c
  rw [show f / 86400 + (e / 86400 - f / 86400) = e / 86400 by omega, e2] at d
  rw [d, Nat.mul_add] at b
  omega

/-! cycles -/
theorem on_cycle {x : Exp.Ex} {n : Int} (h0 : 0 ≤ n) (h1 : n + 146097 ≤ 2932896) : x.On (n + 146097) ↔ x.On n := by
  obtain ⟨y, m, d, v, hn⟩ := Civ.date_ex n h0 (by omega)
  have b := Civ.num_bd v
  have hy : y + 400 ≤ 9999 := by
    refine Classical.byContradiction fun c => ?_
    have mo := Civ.dby_mono (show (9600 : Int) ≤ y by omega)
    have k : Civ.dby 9600 = 2786800 := by decide
    omega
  have v' := Civ.vld_cycle v hy
  have e := Civ.num_cycle y m d
  have a1 := Mat.on_iff (M := x.a4) (D := x.a3) (W := x.a5) (b3 := x.b3) (b5 := x.b5) v
  have a2 := Mat.on_iff (M := x.a4) (D := x.a3) (W := x.a5) (b3 := x.b3) (b5 := x.b5) v'
  rw [e, hn] at a2
  rw [hn] at a1
  have w : ((n + 146097 + 4) % 7).toNat = ((n + 4) % 7).toNat := by omega
  rw [w] at a2
  exact a2.trans a1.symm
/-- what a day adds: itself, and those that lie whole cycles later -/
def adds (last day : Int) : Int := 1 + (last - day).tdiv 146097
/-- the sum over the matched days among so many, from one on -/
noncomputable def sumTo (x : Exp.Ex) (a last : Int) : Nat → Int
  | 0 => 0
  | k + 1 => sumTo x a last k + @ite Int (x.On (a + (k : Nat))) (Classical.propDecidable _) (adds last (a + (k : Nat))) 0
theorem sumTo_one (x : Exp.Ex) (a last : Int) : ∀ k : Nat, (∀ j : Nat, j < k → 0 ≤ last - (a + (j : Nat)) ∧ last - (a + (j : Nat)) < 146097) → sumTo x a last k = (cntN x.On a k : Int)
  | 0, _ => rfl
  | k + 1, h => by
    have ih := sumTo_one x a last k (fun j hj => h j (by omega))
    have q := h k (by omega)
    have e : adds last (a + (k : Nat)) = 1 := by
      unfold adds
      rw [Int.tdiv_eq_ediv_of_nonneg q.1]
      omega
    rw [sumTo, ih]
    by_cases c : x.On (a + (k : Nat))
    · rw [if_pos c, cnt_yes c, e]; omega
    · rw [if_neg c, cnt_no c]; omega
theorem sumTo_less (x : Exp.Ex) (a last : Int) : ∀ k : Nat, (∀ j : Nat, j < k → 0 ≤ last - 146097 - (a + (j : Nat))) → sumTo x a last k = (cntN x.On a k : Int) + sumTo x a (last - 146097) k
  | 0, _ => rfl
  | k + 1, h => by
    have ih := sumTo_less x a last k (fun j hj => h j (by omega))
    have q := h k (by omega)
    have e : adds last (a + (k : Nat)) = 1 + adds (last - 146097) (a + (k : Nat)) := by
      unfold adds
      rw [Int.tdiv_eq_ediv_of_nonneg (by omega), Int.tdiv_eq_ediv_of_nonneg q]
      omega
    rw [sumTo, sumTo, ih]
    by_cases c : x.On (a + (k : Nat))
    · rw [if_pos c, if_pos c, cnt_yes c, e]; omega
    · rw [if_neg c, if_neg c, cnt_no c]; omega
theorem sumTo_add (x : Exp.Ex) (a last : Int) (m : Nat) : ∀ n : Nat, sumTo x a last (m + n) = sumTo x a last m + sumTo x (a + (m : Nat)) last n
  | 0 => by simp [sumTo]
  | n + 1 => by
    have e : a + ((m + n : Nat) : Int) = a + (m : Nat) + (n : Nat) := by omega
    rw [show m + (n + 1) = (m + n) + 1 by omega, sumTo, sumTo_add x a last m n, e, sumTo]
    omega
/-- **all matched days of a span**, out of the first cycle alone -/
theorem sum_cycle {x : Exp.Ex} : ∀ (c : Nat) (a : Int) (k : Nat), k ≤ 146097 * (c + 1) → 0 ≤ a → a + (k : Nat) ≤ 2932897 → sumTo x a (a + (k : Nat) - 1) (min k 146097) = (cntN x.On a k : Int)
  | 0, a, k, hk, _, _ => by
    rw [Nat.min_eq_left (by omega)]
    exact sumTo_one x a _ k fun j hj => by omega
  | c + 1, a, k, hk, h0, h1 => by
    by_cases hs : k ≤ 146097
    · rw [Nat.min_eq_left hs]
      exact sumTo_one x a _ k fun j hj => by omega
    · rw [Nat.min_eq_right (by omega)]
      obtain ⟨r, rfl⟩ : ∃ r, k = 146097 + r := ⟨k - 146097, by omega⟩
      have ih := sum_cycle (x := x) c a r (by omega) h0 (by omega)
      have s1 := cnt_add x.On a 146097 r
      have s2 : cntN x.On (a + ((146097 : Nat) : Int)) r = cntN x.On a r := cnt_congr fun j hj => by
        have q := on_cycle (x := x) (n := a + (j : Nat)) (by omega) (by omega)
        rw [show a + ((146097 : Nat) : Int) + (j : Nat) = a + (j : Nat) + 146097 by omega]
        exact q
      have el : a + ((146097 + r : Nat) : Int) - 1 - 146097 = a + (r : Nat) - 1 := by omega
      by_cases hr : r ≤ 146097
      · rw [Nat.min_eq_left hr] at ih
        have t := sumTo_add x a (a + ((146097 + r : Nat) : Int) - 1) r (146097 - r)
        rw [show r + (146097 - r) = 146097 by omega] at t
        have l1 := sumTo_less x a (a + ((146097 + r : Nat) : Int) - 1) r (fun j hj => by omega)
        have l2 := sumTo_one x (a + (r : Nat)) (a + ((146097 + r : Nat) : Int) - 1) (146097 - r) (fun j hj => by omega)
        have l3 := cnt_add x.On a r (146097 - r)
        rw [show r + (146097 - r) = 146097 by omega] at l3
        rw [el, ih] at l1
        rw [t, l1, l2, s1, s2, l3]
        omega
      · rw [Nat.min_eq_right (by omega)] at ih
        have l1 := sumTo_less x a (a + ((146097 + r : Nat) : Int) - 1) 146097 (fun j hj => by omega)
        rw [el, ih] at l1
        rw [l1, s1, s2]
        omega
end Go.Proofs.YtbehendogcghjaaDoor
