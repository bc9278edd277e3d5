/- Contracts of the document's euclid and times; what a remainder is once it is made positive. -/
import Derived.Test.YtnajpgkahnjabaaEveH
namespace Go.Proofs.Ytnajpgkahnjabaa
open Go.ChangeShapes Go.RowKit

/-- a remainder, with the divisor added if it is negative -/
def fixR (T m : Int) : Int := if T < 0 then T + m else T
theorem fix_is (a : Int) {m : Int} (hm : 0 < m) : -m < a.tmod m ∧ a.tmod m < m ∧ 0 ≤ fixR (a.tmod m) m ∧ fixR (a.tmod m) m < m ∧ Ev.Cg m (fixR (a.tmod m) m) a := by
  unfold fixR
  by_cases h : 0 ≤ a
  · rw [rem_is h]
    have h0 := Int.emod_nonneg a (show m ≠ 0 by omega)
    have h1 := Int.emod_lt_of_pos a hm
    rw [if_neg (by omega)]
    exact ⟨by omega, h1, h0, h1, Ev.Cg.mod m a⟩
  · obtain ⟨e, rfl⟩ : ∃ e, a = -e := ⟨-a, by omega⟩
    rw [Int.neg_tmod, rem_is (by omega)]
    have h0 := Int.emod_nonneg e (show m ≠ 0 by omega)
    have h1 := Int.emod_lt_of_pos e hm
    have hc : Ev.Cg m (-(e % m)) (-e) := by
      obtain ⟨k, hk⟩ := Ev.Cg.mod m e
      exact ⟨-k, by rw [Int.mul_neg]; omega⟩
    by_cases z : e % m = 0
    · rw [if_neg (by omega)]
      exact ⟨by omega, by omega, by omega, by omega, hc⟩
    · rw [if_pos (by omega)]
      refine ⟨by omega, by omega, by omega, by omega, ?_⟩
      obtain ⟨k, hk⟩ := hc
      exact ⟨k + 1, by rw [Int.mul_add, Int.mul_one]; omega⟩

/-- Euclid's three numbers -/
def IsEu (a b g x y : Int) : Prop := g = ((Ev.eu a.toNat b.toNat).1 : Int) ∧ x = (Ev.eu a.toNat b.toNat).2.1 ∧ y = (Ev.eu a.toNat b.toNat).2.2
theorem eu_facts {a b g x y : Int} (h : IsEu a b g x y) (ha : 0 < a) (hb : 0 ≤ b) : 0 < g ∧ a * x + b * y = g ∧ g ∣ a ∧ g ∣ b ∧ (-(max 1 b) ≤ x ∧ x ≤ max 1 b) ∧ (-a ≤ y ∧ y ≤ a) := by
  obtain ⟨rfl, rfl, rfl⟩ := h
  obtain ⟨A, rfl⟩ := Int.eq_ofNat_of_zero_le (show 0 ≤ a by omega)
  obtain ⟨B, rfl⟩ := Int.eq_ofNat_of_zero_le hb
  simp only [Int.toNat_natCast]
  obtain ⟨h1, h2, h3⟩ := Ev.eu_is B A B (Nat.le_refl _)
  obtain ⟨k1, k2, k3, k4⟩ := Ev.eu_bound B A B (Nat.le_refl _) (by omega)
  have hp := Ev.eu_pos B A B (Nat.le_refl _) (by omega)
  exact ⟨by omega, h1, Int.ofNat_dvd.2 h2, Int.ofNat_dvd.2 h3, by omega, by omega⟩
theorem euclid_zero {a g x y : Int} (ha : 0 ≤ a) (h : IsEu a 0 g x y) : g = a ∧ x = 1 ∧ y = 0 := by
  obtain ⟨rfl, rfl, rfl⟩ := h
  rw [show (0 : Int).toNat = 0 from rfl, Ev.eu_zero]
  exact ⟨by simp; omega, rfl, rfl⟩
theorem euclid_step {a b g x y : Int} (ha : 0 < a) (hb : 0 < b) (h : IsEu a b g x y) : IsEu b (a % b) g (y + a / b * x) x := by
  obtain ⟨A, rfl⟩ := Int.eq_ofNat_of_zero_le (show 0 ≤ a by omega)
  obtain ⟨B, rfl⟩ := Int.eq_ofNat_of_zero_le (show 0 ≤ b by omega)
  obtain ⟨rfl, rfl, rfl⟩ := h
  have e : ((A : Int) % (B : Int)).toNat = A % B := by rw [← Int.natCast_emod, Int.toNat_natCast]
  unfold IsEu
  rw [e]
  simp only [Int.toNat_natCast]
  rw [Ev.eu_step (show 0 < B by omega)]
  refine ⟨rfl, ?_, rfl⟩
  rw [Int.natCast_ediv]
  simp only []
  omega

set_option maxRecDepth 100000 in
theorem euclid_any : ∀ (n : Nat) (a b g x y : Int) (w : World), b ≤ n → 0 < a → a ≤ 68719476736 → 0 ≤ b → b ≤ 68719476736 → IsEu a b g x y →
    Calls Try.prog 45 #[.int .i64 a, .int .i64 b] w fun e w' => e = .returned (.tuple #[.int .i64 g, .int .i64 x, .int .i64 y]) ∧ Below w.heap.size w w' := by
  intro n
  induction n with
  | zero =>
    intro a b g x y w hn a0 a1 b0 b1 h
    obtain rfl : b = 0 := by omega
    obtain ⟨rfl, rfl, rfl⟩ := euclid_zero (by omega) h
    clear h
    go_enter Try.func45, Try.ntmps45
    go_wp2_with fail
    go_ret3
    exact ⟨rfl, Below.refl _ _⟩
  | succ n ih =>
    intro a b g x y w hn a0 a1 b0 b1 h
    by_cases z : b = 0
    · subst z
      obtain ⟨rfl, rfl, rfl⟩ := euclid_zero (by omega) h
      clear h
      go_enter Try.func45, Try.ntmps45
      go_wp2_with fail
      go_ret3
      exact ⟨rfl, Below.refl _ _⟩
    · have k := euclid_step a0 (by omega) h
      have r0 := Int.emod_nonneg a z
      have r1 := Int.emod_lt_of_pos a (show 0 < b by omega)
      obtain ⟨_, _, _, _, ⟨f1, f2⟩, ⟨f3, f4⟩⟩ := eu_facts h a0 b0
      obtain ⟨_, _, _, _, ⟨k1, k2⟩, ⟨k3, k4⟩⟩ := eu_facts k (by omega) r0
      have RC := Lib.hid (fun w' => ih b (a % b) g (y + a / b * x) x w' (by omega) (by omega) b1 r0 (by omega) k)
      have e1 : a.tmod b = a % b := rem_is (by omega)
      have e2 : a.tdiv b = a / b := quo_is (by omega)
      have q1 := Int.ediv_le_self b (show 0 ≤ a by omega)
      have q0 : 0 ≤ a / b := Int.ediv_nonneg (by omega) b0
      obtain ⟨q, hq⟩ : ∃ q, a / b = q := ⟨_, rfl⟩
      obtain ⟨r, hr⟩ : ∃ r, a % b = r := ⟨_, rfl⟩
      rw [hq] at RC e2 q0 q1 k1 k2
      rw [hr] at RC e1 r0 r1 k1 k2
      obtain ⟨m, hm⟩ : ∃ m, q * x = m := ⟨_, rfl⟩
      rw [hm] at RC k1 k2
      have w1 : IntKind.i64.wrap q = q := by rw [IntKind.wrap_i64]; omega
      have w2 : IntKind.i64.wrap m = m := by rw [IntKind.wrap_i64]; omega
      have w3 : IntKind.i64.wrap (y + m - m) = y := by rw [IntKind.wrap_i64]; omega
      have w4 : IntKind.i64.wrap y = y := by rw [IntKind.wrap_i64]; omega
      have z1 : (b == 0) = false := by simpa using z
      clear h k ih hq hr f1 f2 f3 f4 k1 k2 k3 k4 r0 r1 hn
      go_enter Try.func45, Try.ntmps45
      go_wp2_with fail
      refine (RC.out _).mono ?_
      rintro e w1 ⟨rfl, hb⟩
      have B := Lib.hid hb
      clear hb
      go_wp2_with fail
      go_quiet (fail)
      go_wp2_with fail
      go_ret3
      exact ⟨rfl, below_drewN B.out _⟩

set_option maxRecDepth 100000 in
set_option maxHeartbeats 1000000 in
theorem times_any (a b m R : Int) (w : World) (a0 : 0 ≤ a) (a1 : a < m) (b0 : 0 ≤ b) (b1 : b < m) (m1 : m ≤ 68719476736) (R0 : 0 ≤ R) (R1 : R < m) (hR : Ev.Cg m R (a * b)) :
    Calls Try.prog 46 #[.int .i64 a, .int .i64 b, .int .i64 m] w fun e w' => e = .returned (.int .i64 R) ∧ w = w' := by
  have HR := Lib.hid hR
  have z0 : (m == 0) = false := by simp; omega
  have z1 : ¬ m = 0 := by omega
  clear hR
  have M1 : Hid (0 < m ∧ m ≤ 68719476736) := Lib.hid ⟨by omega, m1⟩
  have ST : Hid (0 ≤ a ∧ a < m ∧ 0 ≤ b ∧ b < m) := Lib.hid ⟨a0, a1, b0, b1⟩
  have RR : Hid (0 ≤ R ∧ R < m) := Lib.hid ⟨R0, R1⟩
  clear a0 a1 b0 b1 m1 R0 R1
  go_enter Try.func46, Try.ntmps46
  go_wp2_with fail
  go_loop [0, 1, 7] (fun av bv ov => ∃ x y o : Int, av = .int .i64 x ∧ bv = .int .i64 y ∧ ov = .int .i64 o ∧ Hid (0 ≤ x ∧ x < m ∧ 0 ≤ y ∧ y < m ∧ 0 ≤ o ∧ o < m ∧ Ev.Cg m (o + x * y) (a * b))) (fun _ bv _ => (intOf bv).toNat)
  case atStart => exact ⟨a, b, 0, rfl, rfl, rfl, Lib.hid ⟨ST.out.1, ST.out.2.1, ST.out.2.2.1, ST.out.2.2.2, by omega, M1.out.1, by rw [Int.zero_add]; exact Ev.Cg.refl _ _⟩⟩
  case round =>
    obtain ⟨x, y, o, rfl, rfl, rfl, I⟩ := hrel
    obtain ⟨x0, x1, y0, y1, o0, o1, hc⟩ := I.out
    obtain ⟨m0, m1⟩ := M1.out
    by_cases p : 0 < y
    · have d0 := dec_t p
      have e1 : y.tmod 2 = y % 2 := rem_is y0
      have e2 : y.tdiv 2 = y / 2 := quo_is y0
      have e3 : (o + x).tmod m = (o + x) % m := rem_is (by omega)
      have e4 : (2 * x).tmod m = 2 * x % m := rem_is (by omega)
      have v1 : IntKind.i64.wrap (o + x) = o + x := by rw [IntKind.wrap_i64]; omega
      have v2 : IntKind.i64.wrap (2 * x) = 2 * x := by rw [IntKind.wrap_i64]; omega
      have h1 := Int.emod_nonneg (2 * x) z1
      have h2 := Int.emod_lt_of_pos (2 * x) m0
      have h3 := Int.emod_nonneg (o + x) z1
      have h4 := Int.emod_lt_of_pos (o + x) m0
      obtain ⟨x', hx⟩ : ∃ x', 2 * x % m = x' := ⟨_, rfl⟩
      obtain ⟨o', ho⟩ : ∃ o', (o + x) % m = o' := ⟨_, rfl⟩
      obtain ⟨y', hy⟩ : ∃ y', y / 2 = y' := ⟨_, rfl⟩
      have v3 : IntKind.i64.wrap y' = y' := by rw [IntKind.wrap_i64]; omega
      by_cases odd : y % 2 = 1
      · have g : (y % 2 == 1) = true := by simpa using odd
        have C1 := Ev.dbl_one (m := m) (a := x) (out := o) odd
        rw [hx, ho, hy] at C1
        rw [hx] at e4 h1 h2
        rw [ho] at e3 h3 h4
        rw [hy] at e2
        have NI : Hid (0 ≤ x' ∧ x' < m ∧ 0 ≤ y' ∧ y' < m ∧ 0 ≤ o' ∧ o' < m ∧ Ev.Cg m (o' + x' * y') (a * b)) := Lib.hid ⟨h1, h2, by omega, by omega, h3, h4, C1.trans hc⟩
        have YY : Hid (y' < y ∧ 0 ≤ y') := Lib.hid (by omega)
        clear hc C1 hx ho hy h1 h2 h3 h4 x0 x1 y0 y1 o0 o1 p
        have g2 : (y % 2 == 1) = true := g
        go_wp2_with fail
        go_round
        case rel => exact ⟨x', y', o', rfl, rfl, rfl, NI⟩
        case measure => have := YY.out; simp [intOf]; omega
      · have g : (y % 2 == 1) = false := by simpa using odd
        have C1 := Ev.dbl_zero (m := m) (a := x) (out := o) (b := y) (by omega)
        rw [hx, hy] at C1
        rw [hx] at e4 h1 h2
        rw [hy] at e2
        have NI : Hid (0 ≤ x' ∧ x' < m ∧ 0 ≤ y' ∧ y' < m ∧ 0 ≤ o ∧ o < m ∧ Ev.Cg m (o + x' * y') (a * b)) := Lib.hid ⟨h1, h2, by omega, by omega, o0, o1, C1.trans hc⟩
        have YY : Hid (y' < y ∧ 0 ≤ y') := Lib.hid (by omega)
        clear hc C1 hx ho hy h1 h2 h3 h4 x0 x1 y0 y1 o0 o1 p odd
        go_wp2_with fail
        go_round
        case rel => exact ⟨x', y', o, rfl, rfl, rfl, NI⟩
        case measure => have := YY.out; simp [intOf]; omega
    · have d0 := dec_f p
      obtain rfl : y = 0 := by omega
      rw [Int.mul_zero, Int.add_zero] at hc
      obtain rfl : o = R := (hc.trans HR.out.symm).eq o0 o1 RR.out.1 RR.out.2
      clear hc x0 x1 y0 y1 o0 o1 p
      go_wp2_with fail
      go_ret
      exact ⟨rfl, rfl⟩
end Go.Proofs.Ytnajpgkahnjabaa
