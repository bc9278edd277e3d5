/- What the laws of ranges and steps share: texts of digits, sets that a loop makes. -/
import Derived.Test.YtlmbfhbfejjpdaaDoorFldX
namespace Go.Proofs.YtlmbfhbfejjpdaaDoor
open Go.ChangeShapes Go.WideShapes Go.RowKit Go.Shelf

/-- the digits of a number, as a string -/
def dstr (n : Nat) : ByteArray := ⟨(dec n).toArray⟩
theorem dstr_list (n : Nat) : (dstr n).data.toList = dec n := rfl
theorem dstr_size (n : Nat) : 1 ≤ (dstr n).size ∧ (dstr n).size ≤ 2 := by
  rw [Lib.size_eq, dstr_list]
  exact dec_len n
theorem Ctx.drewN {w W : World} {B i : Nat} {v : Value} (h : Ctx w W B i v) (n : Nat) : Ctx w (W.drewN n) B i v := h.next (below_drewN _ W n)
theorem digits_ctx {w W : World} {B i : Nat} {v : Value} (X : Ctx w W B i v) (n : Nat) (hn : n < 100) :
    Calls Tryd.prog 24 #[.int .i64 n] W fun e W' => e = .returned (.string (dstr n)) ∧ Ctx w W' B i v :=
  (digits_any n hn W).mono fun _ _ ⟨h1, h2⟩ => ⟨h1, X.next h2⟩

namespace Fld
/-- what Parse returns for one item -/
theorem parse_item {K : Kd} {l : List UInt8} {x : It} {q : Nat} (h : item K l 0 = .inl (x, q, [])) (hl : l ≠ [42]) : parse K l = match wrong K x with | some a => (0, false, a, 2) | none => (setOf K x, false, 0, 0) := by
  have e := scan_one h
  cases hw : wrong K x with
  | some a =>
    have hb : bad K (scan K l 0).1 = some a := by rw [e]; show bad K [x] = _; unfold bad; rw [List.findSome?_cons, hw]
    rw [parse_arg (by rw [e]) hb]
  | none =>
    have hb : bad K (scan K l 0).1 = none := by rw [e]; show bad K [x] = _; unfold bad; rw [List.findSome?_cons, hw]; rfl
    have hs : (l == [42]) = false := by simpa using hl
    rw [parse_ok (by rw [e]) hb, e, hs]
    show (total K [x], _) = (setOf K x, _)
    unfold total
    rw [List.foldl_cons, List.foldl_nil, Nat.zero_or]
/-- the greatest value of a field -/
def most (K : Kd) : Nat := if K.week = true then 7 else K.hi
/-- what the loop has of a range with a step, up to k -/
def wantN (K : Kd) (a b c : Nat) : Nat → Nat
  | 0 => 0
  | k + 1 => if a ≤ k ∧ k ≤ b ∧ (k - a) % c = 0 then wantN K a b c k ||| (if K.week = true ∧ k = 7 then 1 else 2 ^ k) else wantN K a b c k
theorem wantN_lt (K : Kd) (a b c : Nat) : ∀ k, k ≤ 64 → wantN K a b c k < 2 ^ 64 := by
  intro k
  induction k with
  | zero => intro _; exact (by decide : 0 < 2 ^ 64)
  | succ k ih =>
    intro h
    have i := ih (by omega)
    unfold wantN
    split
    · refine Nat.or_lt_two_pow i ?_
      split
      · exact (by decide : 1 < 2 ^ 64)
      · exact Bit.one_lt (by omega)
    · exact i
theorem wantN_below (K : Kd) (a b c : Nat) : ∀ k, k ≤ a → wantN K a b c k = 0 := by
  intro k
  induction k with
  | zero => intro _; rfl
  | succ k ih =>
    intro h
    unfold wantN
    rw [if_neg (by omega), ih (by omega)]
theorem wantN_bit (K : Kd) (a b c v : Nat) : ∀ k, (wantN K a b c k).testBit v = true ↔ ∃ m, m < k ∧ (a ≤ m ∧ m ≤ b ∧ (m - a) % c = 0) ∧ v = (if K.week = true ∧ m = 7 then 0 else m) := by
  intro k
  induction k with
  | zero =>
    unfold wantN
    rw [Nat.zero_testBit]
    constructor
    · intro h; cases h
    · rintro ⟨m, hm, _⟩; omega
  | succ k ih =>
    have one : (if K.week = true ∧ k = 7 then 1 else 2 ^ k : Nat).testBit v = true ↔ v = (if K.week = true ∧ k = 7 then 0 else k) := by
      split
      · rw [show (1 : Nat) = 2 ^ 0 from rfl, Bit.bit_one, decide_eq_true_iff]
        exact eq_comm
      · rw [Bit.bit_one, decide_eq_true_iff]
        exact eq_comm
    unfold wantN
    split
    · rename_i c1
      rw [Nat.testBit_or, Bool.or_eq_true, ih, one]
      constructor
      · rintro (⟨m, h1, h2, h3⟩ | h)
        · exact ⟨m, by omega, h2, h3⟩
        · exact ⟨k, by omega, c1, h⟩
      · rintro ⟨m, h1, h2, h3⟩
        rcases Nat.lt_or_ge m k with q | q
        · exact .inl ⟨m, q, h2, h3⟩
        · obtain rfl : m = k := by omega
          exact .inr h3
    · rename_i c1
      rw [ih]
      constructor
      · rintro ⟨m, h1, h2⟩; exact ⟨m, by omega, h2⟩
      · rintro ⟨m, h1, h2, h3⟩
        rcases Nat.lt_or_ge m k with q | q
        · exact ⟨m, q, h2, h3⟩
        · obtain rfl : m = k := by omega
          exact (c1 h2).elim
/-- a range that is right has just these numbers -/
theorem want_all {K : Kd} (O : K.Ok) {x : It} (h : wrong K x = none) : wantN K x.f x.s x.t (most K + 1) = setOf K x := by
  obtain ⟨h1, h2, h3, h4⟩ := wrong_none.1 h
  apply Nat.eq_of_testBit_eq
  intro v
  rw [setOf_bit O h, Bool.eq_iff_iff, wantN_bit, decide_eq_true_iff]
  have hle := O.le
  unfold has at h1 h2
  unfold most
  by_cases w : K.week = true
  · obtain ⟨w1, w2⟩ := O.week w
    simp only [w, if_true, true_and]
    constructor
    · rintro ⟨m, m1, m2, m3⟩
      by_cases q : m = 7
      · subst q
        rw [if_pos rfl] at m3
        exact ⟨by omega, .inr ⟨m3, m2.1, m2.2.1, m2.2.2⟩⟩
      · rw [if_neg q] at m3
        subst m3
        exact ⟨by omega, .inl m2⟩
    · rintro ⟨g, (g1 | ⟨g1, g2, g3, g4⟩)⟩
      · exact ⟨v, by omega, g1, by rw [if_neg (by omega)]⟩
      · exact ⟨7, by omega, ⟨g2, g3, g4⟩, by rw [if_pos rfl]; exact g1⟩
  · have w0 : K.week = false := by simpa using w
    rw [w0] at h1 h2
    simp only [w0, Bool.false_eq_true, false_and, or_false, if_false] at h1 h2 ⊢
    constructor
    · rintro ⟨m, m1, m2, rfl⟩
      exact ⟨by omega, m2⟩
    · rintro ⟨g, g1⟩
      exact ⟨v, by omega, g1, rfl⟩
/-- which ranges are wrong -/
theorem wrong_range {K : Kd} (O : K.Ok) (x : It) : wrong K x = none ↔ ¬ (x.f < K.lo ∨ most K < x.s ∨ x.s < x.f ∨ x.t = 0) := by
  rw [wrong_none]
  have hle := O.le
  unfold has most
  by_cases w : K.week = true
  · obtain ⟨w1, w2⟩ := O.week w
    simp only [w, if_true, true_and]
    omega
  · have w0 : K.week = false := by simpa using w
    simp only [w0, Bool.false_eq_true, false_and, or_false, if_false]
    omega
theorem parse_range (K : Kd) {a b c : Nat} (ha : a < 100) (hb : b < 100) (hc : c < 100) :
    ∃ q : Nat, q ≤ 6 ∧ parse K (dec a ++ 45 :: (dec b ++ 47 :: dec c)) = if wrong K ⟨a, 0, b, 0, c, 0⟩ = none then (setOf K ⟨a, 0, b, 0, c, 0⟩, false, 0, 0) else (0, false, q, 2) := by
  have i := item_full K ha hb hc (r := []) (.inl rfl) 0
  rw [List.append_nil] at i
  have hne : dec a ++ 45 :: (dec b ++ 47 :: dec c) ≠ [42] := by
    intro e
    have := congrArg List.length e
    simp only [List.length_append, List.length_cons, List.length_nil] at this
    have := dec_len a
    omega
  have p := parse_item i hne
  have l1 := dec_len a
  have l2 := dec_len b
  generalize hx : (⟨a, 0, b, 0 + (dec a).length + 1, c, 0 + (dec a).length + 1 + (dec b).length + 1⟩ : It) = x at *
  have hs : setOf K x = setOf K ⟨a, 0, b, 0, c, 0⟩ := by subst hx; rfl
  have hw : wrong K x = none ↔ wrong K ⟨a, 0, b, 0, c, 0⟩ = none := by
    rw [wrong_none, wrong_none]
    subst hx
    exact Iff.rfl
  cases q : wrong K x with
  | none =>
    rw [q] at p
    exact ⟨0, by omega, by rw [if_pos (hw.1 q), p, hs]⟩
  | some z =>
    rw [q] at p
    refine ⟨z, ?_, by rw [if_neg (fun e => by rw [hw.2 e] at q; cases q), p]⟩
    have hp : Pl x 7 := by subst hx; exact ⟨by show 0 < 7; omega, by show 0 + (dec a).length + 1 < 7; omega, by show 0 + (dec a).length + 1 + (dec b).length + 1 < 7; omega⟩
    have := wrong_pl hp q
    omega
/-! steps -/
theorem parse_stars {K : Kd} (O : K.Ok) {c : Nat} (h1 : 1 ≤ c) (hc : c < 100) : parse K (42 :: 47 :: dec c) = (setOf K ⟨K.lo, 0, K.hi, 0, c, 0⟩, false, 0, 0) := by
  have i := item_stars K hc (r := []) (.inl rfl) 0
  rw [List.append_nil] at i
  have p := parse_item i (by simp)
  rw [wrong_star O h1] at p
  exact p
theorem parse_steps {K : Kd} {n c : Nat} (h1 : 1 ≤ c) (hc : c < 100) (hn : K.lo ≤ n) (hm : n ≤ K.hi) (hk : K.hi ≤ 62) : parse K (dec n ++ 47 :: dec c) = (setOf K ⟨n, 0, K.hi, 0, c, 0⟩, false, 0, 0) := by
  have i := item_step K (a := n) (c := c) (by omega) hc (r := []) (.inl rfl) 0
  rw [List.append_nil, Nat.max_eq_right hm] at i
  have p := parse_item i (by
    intro e
    have := congrArg List.length e
    simp only [List.length_append, List.length_cons, List.length_nil] at this
    have := dec_len n
    have := dec_len c
    omega)
  have hw : wrong K ⟨n, 0, K.hi, 0, c, 0 + (dec n).length + 1⟩ = none := wrong_none.2 ⟨.inl ⟨hn, hm⟩, .inl ⟨by show K.lo ≤ K.hi; omega, Nat.le_refl _⟩, hm, h1⟩
  rw [hw] at p
  exact p
theorem parse_one {K : Kd} {n : Nat} (hn : K.lo ≤ n) (hm : n ≤ K.hi) (hk : K.hi ≤ 62) : parse K (dec n) = (setOf K ⟨n, 0, n, 0, 1, 0⟩, false, 0, 0) := by
  have i := item_one K (a := n) (by omega) (r := []) (.inl rfl) 0
  rw [List.append_nil] at i
  have p := parse_item i (by
    intro e
    obtain ⟨c, t, ec, hc⟩ := dec_head n (by omega)
    rw [ec] at e
    simp only [List.cons.injEq] at e
    rw [e.1] at hc
    exact absurd hc (by decide))
  have hw : wrong K ⟨n, 0, n, 0, 1, 0⟩ = none := wrong_none.2 ⟨.inl ⟨hn, hm⟩, .inl ⟨hn, hm⟩, Nat.le_refl _, Nat.le_refl _⟩
  rw [hw] at p
  exact p
/-- the numbers of an item that lies within the kind's own -/
theorem setOf_in_bit {K : Kd} (O : K.Ok) {x : It} (h : wrong K x = none) (hs : x.s ≤ K.hi) (v : Nat) : (setOf K x).testBit v = decide ((K.lo ≤ v ∧ v ≤ K.hi) ∧ (x.f ≤ v ∧ v ≤ x.s ∧ (v - x.f) % x.t = 0)) := by
  rw [setOf_bit O h]
  congr 1
  apply propext
  constructor
  · rintro ⟨a, b | ⟨c, d⟩⟩
    · exact ⟨a, b⟩
    · have := O.week c; omega
  · rintro ⟨a, b⟩; exact ⟨a, .inl b⟩
theorem setOf_one {K : Kd} (O : K.Ok) {n : Nat} (hn : K.lo ≤ n) (hm : n ≤ K.hi) : setOf K ⟨n, 0, n, 0, 1, 0⟩ = 2 ^ n := by
  have hw : wrong K ⟨n, 0, n, 0, 1, 0⟩ = none := wrong_none.2 ⟨.inl ⟨hn, hm⟩, .inl ⟨hn, hm⟩, Nat.le_refl _, Nat.le_refl _⟩
  apply Nat.eq_of_testBit_eq
  intro v
  rw [setOf_in_bit O hw hm, Bit.bit_one]
  refine decide_eq_decide.2 ?_
  show ((K.lo ≤ v ∧ v ≤ K.hi) ∧ (n ≤ v ∧ v ≤ n ∧ (v - n) % 1 = 0)) ↔ n = v
  rw [Nat.mod_one]
  omega
end Fld
theorem bit_test {S v : Nat} (hS : S < 2 ^ 64) : (bits .and .u64 ((S : Int) / 2 ^ v) 1 == 1) = S.testBit v := by
  have q : (S : Int) / 2 ^ v = ((S / 2 ^ v : Nat) : Int) := by simp
  have q1 : S / 2 ^ v < 2 ^ 64 := Nat.lt_of_le_of_lt (Nat.div_le_self _ _) hS
  rw [q, show bits .and .u64 ((S / 2 ^ v : Nat) : Int) 1 = ((S / 2 ^ v &&& 1 : Nat) : Int) from u64_and_nat (S / 2 ^ v) 1 q1 (by decide), Nat.and_one_is_mod, Nat.testBit_eq_decide_div_mod_eq]
  clear q q1
  generalize S / 2 ^ v = z
  by_cases c : z % 2 = 1
  · simp [c]
  · have : z % 2 = 0 := by omega
    simp [this]
theorem range_text (a b c : Nat) : (dstr a ++ (⟨#[45]⟩ : ByteArray) ++ dstr b ++ (⟨#[47]⟩ : ByteArray) ++ dstr c).data.toList = dec a ++ 45 :: (dec b ++ 47 :: dec c) := by
  simp only [app_list, dstr_list, List.append_assoc]
  rfl
theorem range_size (a b c : Nat) : (dstr a ++ (⟨#[45]⟩ : ByteArray) ++ dstr b ++ (⟨#[47]⟩ : ByteArray) ++ dstr c).size ≤ 9223372036854775000 := by
  rw [Lib.size_eq, range_text]
  have := dec_len a
  have := dec_len b
  have := dec_len c
  simp only [List.length_append, List.length_cons]
  omega
theorem stars_text (c : Nat) : ((⟨#[42, 47]⟩ : ByteArray) ++ dstr c).data.toList = 42 :: 47 :: dec c := by
  rw [app_list, dstr_list]
  rfl
theorem steps_text (a c : Nat) : (dstr a ++ (⟨#[47]⟩ : ByteArray) ++ dstr c).data.toList = dec a ++ 47 :: dec c := by
  simp only [app_list, dstr_list, List.append_assoc]
  rfl
theorem dash_text (a c : Nat) : (dstr a ++ (⟨#[45]⟩ : ByteArray) ++ dstr c).data.toList = dec a ++ 45 :: dec c := by
  simp only [app_list, dstr_list, List.append_assoc]
  rfl
theorem stars_size (c : Nat) : ((⟨#[42, 47]⟩ : ByteArray) ++ dstr c).size ≤ 9223372036854775000 := by
  rw [Lib.size_eq, stars_text]
  have := dec_len c
  simp only [List.length_cons]
  omega
theorem steps_size (a c : Nat) : (dstr a ++ (⟨#[47]⟩ : ByteArray) ++ dstr c).size ≤ 9223372036854775000 := by
  rw [Lib.size_eq, steps_text]
  have := dec_len a
  have := dec_len c
  simp only [List.length_append, List.length_cons]
  omega
theorem dash_size (a c : Nat) : (dstr a ++ (⟨#[45]⟩ : ByteArray) ++ dstr c).size ≤ 9223372036854775000 := by
  rw [Lib.size_eq, dash_text]
  have := dec_len a
  have := dec_len c
  simp only [List.length_append, List.length_cons]
  omega
end Go.Proofs.YtlmbfhbfejjpdaaDoor
