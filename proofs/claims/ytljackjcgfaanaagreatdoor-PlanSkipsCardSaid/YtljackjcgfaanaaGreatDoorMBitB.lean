/- Contracts of math/bits' TrailingZeros64 (the smallest number of a set), Len64 (the greatest one), OnesCount64 (how many there are). Contracts of Next, Prev and Turn, of package bits and of the document's: which number each returns, or that there is none; the world stays. Contracts of Turn, of package bits and of the document's: the first number that is met on the circle, and how many steps; the world stays. Contracts of the document's Turn, and of Range, of package bits and of the document's; the world stays. -/
import Derived.Test.YtljackjcgfaanaaGreatDoorGMPlain
import Derived.Test.YtljackjcgfaanaaGreatDoorShelf
import Derived.Lib.TrailingZeros
import Derived.Laws.Bits64b
import Derived.BigQuiet
import Derived.ChangeOld
/- Contracts of math/bits' TrailingZeros64 (the smallest number of a set), Len64 (the greatest one), OnesCount64 (how many there are). -/
namespace Go.Proofs.YtljackjcgfaanaaGreatDoor
open Go.ChangeShapes Go.RowKit

/-- the table of math/bits, as the program lays it -/
structure Lay (w : World) : Prop where
  c : ∀ j, j < 64 → w.cell? ⟨1, j, none⟩ = some (.int .u8 (Lib.deBruijn64tab.getD j 0 : Nat))
  lt : 1 < w.heap.size
theorem Lay.below {w w' : World} (L : Lay w) (h : Below w.heap.size w w') : Lay w' where
  c := fun j hj => (h.cell (p := ⟨1, j, none⟩) L.lt).trans (L.c j hj)
  lt := Nat.lt_of_lt_of_le L.lt h.size
theorem Lay.alloc {w : World} (L : Lay w) (o : Obj) : Lay (w.alloc o) := L.below ((Below.refl _ _).alloc (Nat.le_refl _) _)

/-- k is the smallest number of T -/
def Least (T k : Nat) : Prop := T.testBit k = true ∧ ∀ j, j < k → T.testBit j = false
theorem odd_bit (k m : Nat) : Least (2 ^ k * (2 * m + 1)) k := by
  constructor
  · rw [Nat.testBit_eq_decide_div_mod_eq, Nat.mul_div_cancel_left _ (Nat.two_pow_pos k)]
    simp
  · intro j hj
    obtain ⟨d, rfl⟩ : ∃ d, k = j + (d + 1) := ⟨k - j - 1, by omega⟩
    rw [Nat.testBit_eq_decide_div_mod_eq, Nat.pow_add, Nat.mul_assoc, Nat.mul_div_cancel_left _ (Nat.two_pow_pos j), Nat.pow_succ]
    simp [Nat.mul_comm, Nat.mul_left_comm]
theorem least_one {T k k' : Nat} (h : Least T k) (h' : Least T k') : k = k' := by
  rcases Nat.lt_trichotomy k k' with c | c | c
  · have := h'.2 k c; rw [h.1] at this; cases this
  · exact c
  · have := h.2 k' c; rw [h'.1] at this; cases this
theorem least_ctz {T : Nat} (h0 : T ≠ 0) (hT : T < 2 ^ 64) : Least T (Lib.ctz 64 T) ∧ Lib.ctz 64 T < 64 := by
  obtain ⟨m, hm, hk⟩ := Lib.ctzFrom_spec 64 T (by omega) hT
  have e : Lib.ctz 64 T = Lib.ctzFrom 64 T := by simp [Lib.ctz, h0]
  rw [e]
  refine ⟨?_, hk⟩
  have := odd_bit (Lib.ctzFrom 64 T) m
  rw [← hm] at this
  exact this

theorem tz_core (x k idx : Nat) (w : World) (hx0 : ((x : Int) == 0) = false)
    (key : IntKind.u64.wrap (bits BinOp.and IntKind.u64 (x : Int) (IntKind.u64.wrap (-(x : Int))) * 285870213051353865) / 288230376151711744 = (idx : Int))
    (hi : idx < 64) (hk : k < 64) (hcell : w.cell? ⟨1, idx, none⟩ = some (.int .u8 k)) :
    Calls Tryz.prog 171 #[.int .u64 x] w fun e w' => e = .returned (.int .i64 k) ∧ w = w' := by
  go_enter Tryz.func171, Tryz.ntmps171
  go_wp2_with (simp only [key])
  go_ret
  exact ⟨rfl, rfl⟩
theorem tz_key (x a : Nat) (hx : x < 18446744073709551616) (hx0 : x ≠ 0) (hlow : x &&& (18446744073709551616 - x) = a) :
    IntKind.u64.wrap (bits BinOp.and IntKind.u64 (x : Int) (IntKind.u64.wrap (-(x : Int))) * 285870213051353865) / 288230376151711744 = ((a * 285870213051353865 % 18446744073709551616 / 288230376151711744 : Nat) : Int) := by
  have e1 : IntKind.u64.wrap (-(x : Int)) = ((18446744073709551616 - x : Nat) : Int) := by rw [IntKind.wrap_u64]; omega
  rw [e1, u64_and_nat x _ hx (by omega), hlow, IntKind.wrap_u64]
  omega
theorem tz_any (T k : Nat) (w : World) (L : Lay w) (h0 : T ≠ 0) (hT : T < 2 ^ 64) (h : Least T k) :
    Calls Tryz.prog 171 #[.int .u64 T] w fun e w' => e = .returned (.int .i64 k) ∧ w = w' := by
  obtain ⟨hl, hk⟩ := least_ctz h0 hT
  obtain rfl := least_one h hl
  obtain ⟨hlow, _⟩ := Lib.lowest_bit 64 T h0 hT
  obtain ⟨hi, htab⟩ := Lib.deBruijn64_at _ hk
  have hcell := L.c _ hi
  rw [htab] at hcell
  exact tz_core T _ _ w (by simp; omega) (tz_key T _ hT h0 hlow) hi hk hcell

/-- k is the greatest number of T -/
def Most (T k : Nat) : Prop := T.testBit k = true ∧ ∀ j, k < j → T.testBit j = false
theorem most_len {T k : Nat} (hT : T < 2 ^ 64) (h : Most T k) : Lib.bitLen T = k + 1 := by
  have a : 2 ^ k ≤ T := Nat.ge_two_pow_of_testBit h.1
  have b : T < 2 ^ (k + 1) := Nat.lt_pow_two_of_testBit T fun i hi => h.2 i (by omega)
  rw [Lib.bitLen_shift k T a hT]
  have : T / 2 ^ k = 1 := by
    have a' : 1 ≤ T / 2 ^ k := (Nat.le_div_iff_mul_le (Nat.two_pow_pos k)).2 (by omega)
    have b' : T / 2 ^ k < 2 := (Nat.div_lt_iff_lt_mul (Nat.two_pow_pos k)).2 (by rw [Nat.pow_succ] at b; omega)
    omega
  rw [this]
  rfl
theorem len_any (T k : Nat) (w : World) (hT : T < 2 ^ 64) (h : Most T k) :
    Calls Tryz.prog 183 #[.int .u64 T] w fun e w' => e = .returned (.int .i64 ((k + 1 : Nat) : Int)) ∧ w = w' := by
  refine (Tryz.bits_Len64 (T : Int) w (by omega) (by omega)).mono ?_
  rintro e w' ⟨rfl, rfl⟩
  refine ⟨ret_int ?_, rfl⟩
  rw [Int.toNat_natCast, most_len hT h]

/-- r is the next number from v on -/
structure Nxt (S : Nat) (v : Int) (r : Nat) : Prop where
  has : S.testBit r = true
  ge : v ≤ r
  min : ∀ j, S.testBit j = true → v ≤ j → r ≤ j
def NoNxt (S : Nat) (v : Int) : Prop := ∀ j, S.testBit j = true → (j : Int) < v
/-- r is the number before, from v down -/
structure Prv (S : Nat) (v : Int) (r : Nat) : Prop where
  has : S.testBit r = true
  le : (r : Int) ≤ v
  max : ∀ j, S.testBit j = true → (j : Int) ≤ v → j ≤ r
def NoPrv (S : Nat) (v : Int) : Prop := ∀ j, S.testBit j = true → v < (j : Int)
theorem Nxt.least {S : Nat} {v : Int} {r : Nat} (hS : S < 2 ^ 64) (h : Nxt S v r) : Least (from_ S v) r := by
  constructor
  · rw [from_bit hS, h.has]; simpa using h.ge
  · intro j hj
    rw [from_bit hS]
    by_cases c : S.testBit j = true
    · have : ¬ v ≤ j := fun q => by have := h.min j c q; omega
      simp [this]
    · have c : S.testBit j = false := by simpa using c
      rw [c]; rfl
theorem Nxt.ne {S : Nat} {v : Int} {r : Nat} (hS : S < 2 ^ 64) (h : Nxt S v r) : from_ S v ≠ 0 := by
  intro e
  have := (h.least hS).1
  rw [e, Nat.zero_testBit] at this
  cases this
theorem NoNxt.zero {S : Nat} {v : Int} (hS : S < 2 ^ 64) (h : NoNxt S v) : from_ S v = 0 := by
  apply Bit.ext64 (from_lt hS v) (by decide)
  intro j hj
  rw [from_bit hS, Nat.zero_testBit]
  by_cases c : S.testBit j = true
  · have := h j c
    have : ¬ v ≤ j := by omega
    simp [this]
  · have c : S.testBit j = false := by simpa using c
    rw [c]; rfl
theorem prv_lt {S : Nat} {v : Int} {r : Nat} (hS : S < 2 ^ 64) (h : Prv S v r) : r < 64 := set_hi hS h.has
theorem Prv.most {S : Nat} {v u : Int} {r : Nat} (hS : S < 2 ^ 64) (h : Prv S v r) (hu : ∀ j : Nat, j < 64 → ((j : Int) < u ↔ (j : Int) ≤ v)) : Most (upto S u) r := by
  constructor
  · rw [upto_bit hS, h.has]
    simpa using (hu r (prv_lt hS h)).2 h.le
  · intro j hj
    rw [upto_bit hS]
    by_cases c : S.testBit j = true
    · have : ¬ (j : Int) < u := fun q => by have := h.max j c ((hu j (set_hi hS c)).1 q); omega
      simp [this]
    · have c : S.testBit j = false := by simpa using c
      rw [c]; rfl
theorem Prv.ne {S : Nat} {v u : Int} {r : Nat} (hS : S < 2 ^ 64) (h : Prv S v r) (hu : ∀ j : Nat, j < 64 → ((j : Int) < u ↔ (j : Int) ≤ v)) : upto S u ≠ 0 := by
  intro e
  have := (h.most hS hu).1
  rw [e, Nat.zero_testBit] at this
  cases this
theorem NoPrv.zero {S : Nat} {v u : Int} (hS : S < 2 ^ 64) (h : NoPrv S v) (hu : ∀ j : Nat, j < 64 → ((j : Int) < u ↔ (j : Int) ≤ v)) : upto S u = 0 := by
  apply Bit.ext64 (upto_lt hS u) (by decide)
  intro j hj
  rw [upto_bit hS, Nat.zero_testBit]
  by_cases c : S.testBit j = true
  · have := h j c
    have : ¬ (j : Int) < u := fun q => by have := (hu j hj).1 q; omega
    simp [this]
  · have c : S.testBit j = false := by simpa using c
    rw [c]; rfl

theorem next_yes (S : Nat) (v : Int) (r : Nat) (w : World) (L : Lay w) (hS : S < 2 ^ 64) (v1 : v ≤ 9223372036854775807) (h : Nxt S v r) :
    Calls Tryz.prog 158 #[.int .u64 S, .int .i64 v] w fun e w' => e = .returned (.tuple #[.int .i64 r, .bool true]) ∧ w = w' := by
  have B := Lib.hid (fun w => below_any v w v1)
  have a : bits .andNot .u64 (S : Int) (low v : Nat) = (from_ S v : Nat) := u64_andNot_nat S (low v) hS (low_lt v)
  have Z := Lib.hid (fun w (L : Lay w) => tz_any (from_ S v) r w L (h.ne hS) (from_lt hS v) (h.least hS))
  have ne : (((from_ S v : Nat) : Int) == 0) = false := by
    have := h.ne hS
    rw [beq_eq_false_iff_ne]; omega
  obtain ⟨T, hT⟩ : ∃ T, from_ S v = T := ⟨_, rfl⟩
  obtain ⟨M, hM⟩ : ∃ M, low v = M := ⟨_, rfl⟩
  rw [hT] at a Z ne
  rw [hM] at a B
  clear hT hM h
  go_enter Tryz.func158, Tryz.ntmps158
  go_wp2_with fail
  refine (B.out _).mono ?_
  rintro e w1 ⟨rfl, rfl⟩
  go_wp2_with fail
  refine (Z.out _ L).mono ?_
  rintro e w1 ⟨rfl, rfl⟩
  go_wp2_with fail
  go_ret2
  exact ⟨rfl, rfl⟩
theorem next_no (S : Nat) (v : Int) (w : World) (hS : S < 2 ^ 64) (v1 : v ≤ 9223372036854775807) (h : NoNxt S v) :
    Calls Tryz.prog 158 #[.int .u64 S, .int .i64 v] w fun e w' => e = .returned (.tuple #[.int .i64 0, .bool false]) ∧ w = w' := by
  have B := Lib.hid (fun w => below_any v w v1)
  have a : bits .andNot .u64 (S : Int) (low v : Nat) = 0 := by
    rw [u64_andNot_nat S (low v) hS (low_lt v)]
    exact congrArg Int.ofNat (h.zero hS)
  obtain ⟨M, hM⟩ : ∃ M, low v = M := ⟨_, rfl⟩
  rw [hM] at a B
  clear hM h
  go_enter Tryz.func158, Tryz.ntmps158
  go_wp2_with fail
  refine (B.out _).mono ?_
  rintro e w1 ⟨rfl, rfl⟩
  go_wp2_with fail
  go_ret2
  exact ⟨rfl, rfl⟩
end Go.Proofs.YtljackjcgfaanaaGreatDoor
/- Contracts of Next, Prev and Turn, of package bits and of the document's: which number each returns, or that there is none; the world stays. -/
namespace Go.Proofs.YtljackjcgfaanaaGreatDoor
open Go.ChangeShapes Go.RowKit
/-- what Next returns, and what Prev -/
def IsNext (S : Nat) (v : Int) (a : Int) (b : Bool) : Prop := (NoNxt S v ∧ a = 0 ∧ b = false) ∨ ∃ r : Nat, Nxt S v r ∧ a = r ∧ b = true
def IsPrev (S : Nat) (v : Int) (a : Int) (b : Bool) : Prop := (NoPrv S v ∧ a = 0 ∧ b = false) ∨ ∃ r : Nat, Prv S v r ∧ a = r ∧ b = true
theorem next_any (S : Nat) (v a : Int) (b : Bool) (w : World) (L : Lay w) (hS : S < 2 ^ 64) (v1 : v ≤ 9223372036854775807) (h : IsNext S v a b) :
    Calls Tryz.prog 158 #[.int .u64 S, .int .i64 v] w fun e w' => e = .returned (.tuple #[.int .i64 a, .bool b]) ∧ w = w' := by
  rcases h with ⟨h, rfl, rfl⟩ | ⟨r, h, rfl, rfl⟩
  · exact next_no S v w hS v1 h
  · exact next_yes S v r w L hS v1 h
theorem prev_yes (S : Nat) (v : Int) (r : Nat) (w : World) (hS : S < 2 ^ 64) (v0 : -9223372036854775808 ≤ v) (v1 : v ≤ 9223372036854775807) (h : Prv S v r) :
    Calls Tryz.prog 173 #[.int .u64 S, .int .i64 v] w fun e w' => e = .returned (.tuple #[.int .i64 r, .bool true]) ∧ w = w' := by
  have hu : ∀ j : Nat, j < 64 → ((j : Int) < min v 64 + 1 ↔ (j : Int) ≤ v) := fun j hj => by omega
  have B := Lib.hid (fun w => below_any (min v 64 + 1) w (by omega))
  have a : bits .and .u64 (S : Int) (low (min v 64 + 1) : Nat) = (upto S (min v 64 + 1) : Nat) := u64_and_nat S (low _) hS (low_lt _)
  have Z := Lib.hid (fun w => len_any (upto S (min v 64 + 1)) r w (upto_lt hS _) (h.most hS hu))
  have ne : (((upto S (min v 64 + 1) : Nat) : Int) == 0) = false := by
    have := h.ne hS hu
    rw [beq_eq_false_iff_ne]; omega
  obtain ⟨T, hT⟩ : ∃ T, upto S (min v 64 + 1) = T := ⟨_, rfl⟩
  obtain ⟨M, hM⟩ : ∃ M, low (min v 64 + 1) = M := ⟨_, rfl⟩
  rw [hT] at a Z ne
  rw [hM] at a B
  have r64 := prv_lt hS h
  clear hT hM h hu
  go_enter Tryz.func173, Tryz.ntmps173
  go_wp2_with fail
  all_goals
    refine (B.out _).mono ?_
    rintro e w1 ⟨rfl, rfl⟩
    go_wp2_with fail
    refine (Z.out _).mono ?_
    rintro e w1 ⟨rfl, rfl⟩
    go_wp2_with fail
    go_ret2
    exact ⟨by simp, rfl⟩
theorem prev_no (S : Nat) (v : Int) (w : World) (hS : S < 2 ^ 64) (v0 : -9223372036854775808 ≤ v) (v1 : v ≤ 9223372036854775807) (h : NoPrv S v) :
    Calls Tryz.prog 173 #[.int .u64 S, .int .i64 v] w fun e w' => e = .returned (.tuple #[.int .i64 0, .bool false]) ∧ w = w' := by
  have hu : ∀ j : Nat, j < 64 → ((j : Int) < min v 64 + 1 ↔ (j : Int) ≤ v) := fun j hj => by omega
  have B := Lib.hid (fun w => below_any (min v 64 + 1) w (by omega))
  have a : bits .and .u64 (S : Int) (low (min v 64 + 1) : Nat) = 0 := by
    rw [u64_and_nat S (low _) hS (low_lt _)]
    exact congrArg Int.ofNat (h.zero hS hu)
  obtain ⟨M, hM⟩ : ∃ M, low (min v 64 + 1) = M := ⟨_, rfl⟩
  rw [hM] at a B
  clear hM h hu
  go_enter Tryz.func173, Tryz.ntmps173
  go_wp2_with fail
  all_goals
    refine (B.out _).mono ?_
    rintro e w1 ⟨rfl, rfl⟩
    go_wp2_with fail
    go_ret2
    exact ⟨rfl, rfl⟩
theorem prev_any (S : Nat) (v a : Int) (b : Bool) (w : World) (hS : S < 2 ^ 64) (v0 : -9223372036854775808 ≤ v) (v1 : v ≤ 9223372036854775807) (h : IsPrev S v a b) :
    Calls Tryz.prog 173 #[.int .u64 S, .int .i64 v] w fun e w' => e = .returned (.tuple #[.int .i64 a, .bool b]) ∧ w = w' := by
  rcases h with ⟨h, rfl, rfl⟩ | ⟨r, h, rfl, rfl⟩
  · exact prev_no S v w hS v0 v1 h
  · exact prev_yes S v r w hS v0 v1 h

end Go.Proofs.YtljackjcgfaanaaGreatDoor
/- Contracts of Turn, of package bits and of the document's: the first number that is met on the circle, and how many steps; the world stays. -/
namespace Go.Proofs.YtljackjcgfaanaaGreatDoor
open Go.ChangeShapes Go.RowKit

/-- x is met first on the circle of the numbers below z, from f on, k steps away -/
structure Trn (S f z x k : Nat) : Prop where
  lt : k < z
  at_ : (f + k) % z = x
  has : S.testBit x = true
  first : ∀ j, j < k → S.testBit ((f + j) % z) = false
def NoTrn (S z : Nat) : Prop := ∀ j, j < z → S.testBit j = false
theorem md1 {f k z : Nat} (h : f + k < z) : (f + k) % z = f + k := Nat.mod_eq_of_lt h
theorem md2 {f k z : Nat} (h : z ≤ f + k) (h2 : f + k < z + z) : (f + k) % z = f + k - z := by
  rw [Nat.mod_eq_sub_mod h, Nat.mod_eq_of_lt (by omega)]
/-- from f on in one turn each number is met -/
theorem met {f z j : Nat} (hf : f < z) (hj : j < z) : ∃ k, k < z ∧ (f + k) % z = j := by
  by_cases c : f ≤ j
  · exact ⟨j - f, by omega, by rw [md1 (by omega)]; omega⟩
  · exact ⟨j + z - f, by omega, by rw [md2 (by omega) (by omega)]; omega⟩
theorem upto_hit {S : Nat} (hS : S < 2 ^ 64) {z j : Nat} (h : (upto S z).testBit j = true) : S.testBit j = true ∧ j < z := by
  rw [upto_bit hS] at h
  simpa using h
theorem upto_of {S : Nat} (hS : S < 2 ^ 64) {z j : Nat} (h : S.testBit j = true) (hj : j < z) : (upto S z).testBit j = true := by
  rw [upto_bit hS, h]
  simpa using hj
/-- the way to the first number, by the next one from f on, or else from 0 on -/
theorem Trn.up {S f z x k r : Nat} (hS : S < 2 ^ 64) (t : Trn S f z x k) (h : Nxt (upto S z) f r) : x = r ∧ k = r - f ∧ f ≤ r := by
  obtain ⟨r1, r2⟩ := upto_hit hS h.has
  have fr : f ≤ r := by have := h.ge; omega
  have a : k ≤ r - f := by
    by_cases c : r - f < k
    · have := t.first _ c
      rw [md1 (by omega), show f + (r - f) = r by omega, r1] at this
      cases this
    · omega
  have x1 := t.at_
  rw [md1 (by omega)] at x1
  have := h.min x (upto_of hS t.has (by omega)) (by omega)
  omega
theorem Trn.round {S f z x k r : Nat} (hS : S < 2 ^ 64) (hf : f < z) (t : Trn S f z x k) (n : NoNxt (upto S z) f) (h : Nxt (upto S z) 0 r) : x = r ∧ k = z - f + r := by
  obtain ⟨r1, r2⟩ := upto_hit hS h.has
  have x0 := t.at_
  have kz := t.lt
  have big : z ≤ f + k := by
    by_cases c : f + k < z
    · rw [md1 c] at x0
      have := n x (upto_of hS t.has (by omega))
      omega
    · omega
  rw [md2 big (by omega)] at x0
  have a := h.min x (upto_of hS t.has (by omega)) (by omega)
  by_cases c : r < x
  · have := t.first (r + z - f) (by omega)
    have rf : r < f := by have := n r h.has; omega
    rw [md2 (by omega) (by omega), show f + (r + z - f) - z = r by omega, r1] at this
    cases this
  · omega
theorem NoTrn.none {S z : Nat} (hS : S < 2 ^ 64) (h : NoTrn S z) (v : Int) : NoNxt (upto S z) v := by
  intro j hj
  obtain ⟨a, b⟩ := upto_hit hS hj
  rw [h j b] at a
  cases a
theorem Trn.some {S f z x k : Nat} (hS : S < 2 ^ 64) (hf : f < z) (t : Trn S f z x k) (n : NoNxt (upto S z) 0) : False := by
  have := n x (upto_of hS t.has (by rw [← t.at_]; exact Nat.mod_lt _ (by omega)))
  omega

end Go.Proofs.YtljackjcgfaanaaGreatDoor
/- Contracts of the document's Turn, and of Range, of package bits and of the document's; the world stays. -/
namespace Go.Proofs.YtljackjcgfaanaaGreatDoor
open Go.ChangeShapes Go.RowKit
/-- what Range returns: the set, or the error -/
def IsRange (lo hi st : Int) (s : Nat) (r : Int) : Prop :=
  (¬ (0 ≤ lo ∧ lo < 64 ∧ 0 ≤ hi ∧ hi < 64) ∧ s = 0 ∧ r = 3) ∨
  (0 ≤ lo ∧ lo < 64 ∧ 0 ≤ hi ∧ hi < 64 ∧ (hi < lo ∨ st < 1) ∧ s = 0 ∧ r = 2) ∨
  ∃ l h t : Nat, lo = l ∧ hi = h ∧ st = t ∧ l ≤ h ∧ h < 64 ∧ 1 ≤ t ∧ s = Bit.rangeS l h t ∧ r = 0
theorem IsRange.lt {lo hi st : Int} {s : Nat} {r : Int} (h : IsRange lo hi st s r) : s < 2 ^ 64 := by
  rcases h with ⟨_, rfl, _⟩ | ⟨_, _, _, _, _, rfl, _⟩ | ⟨l, h, t, _, _, _, a, b, c, rfl, _⟩
  · decide
  · decide
  · exact Bit.rangeS_lt a c b
/-- a step of 64 leaves the first number alone, as all greater ones do -/
theorem range_big {l h t : Nat} (a : l ≤ h) (b : h < 64) (c : 64 ≤ t) : Bit.rangeS l h t = Bit.rangeS l h 64 := by
  have e : ∀ q, 64 ≤ q → (h - l) / q = 0 := fun q hq => Nat.div_eq_of_lt (by omega)
  unfold Bit.rangeS
  rw [e t c, e 64 (by omega)]
  simp [Bit.nums]
/-- the set of the first k numbers of a range -/
def part (l t k : Nat) : Nat := Bit.ofL 0 (Bit.nums l t k)
theorem part_succ (l t k : Nat) : part l t (k + 1) = part l t k ||| 2 ^ (l + k * t) := by
  unfold part Bit.ofL Bit.nums
  rw [List.range_succ, List.map_append, List.foldl_append]
  rfl
theorem part_lt {l h t k : Nat} (hk : k = 0 ∨ l + (k - 1) * t ≤ h) (b : h < 64) : part l t k < 2 ^ 64 := by
  apply Bit.ofL_lt _ _ (by decide)
  intro v hv
  obtain ⟨j, hj, rfl⟩ := Bit.nums_mem.1 hv
  have : j * t ≤ (k - 1) * t := Nat.mul_le_mul_right t (by omega)
  omega
theorem range_bad1 (lo hi st : Int) (w : World) (h : ¬ (0 ≤ lo ∧ lo < 64 ∧ 0 ≤ hi ∧ hi < 64)) :
    Calls Tryz.prog 141 #[.int .i64 lo, .int .i64 hi, .int .i64 st] w fun e w' => e = .returned (.tuple #[.int .u64 0, .int .i64 3]) ∧ w = w' := by
  by_cases a : 0 ≤ lo ∧ lo < 64
  · have A := Lib.hid (fun w => exists_t lo w a.1 a.2)
    have B := Lib.hid (fun w => exists_f hi w (by omega))
    clear h a
    go_enter Tryz.func141, Tryz.ntmps141
    go_wp2_with fail
    refine (A.out _).mono ?_
    rintro e w1 ⟨rfl, rfl⟩
    go_wp2_with fail
    refine (B.out _).mono ?_
    rintro e w1 ⟨rfl, rfl⟩
    go_wp2_with fail
    go_ret2
    exact ⟨rfl, rfl⟩
  · have A := Lib.hid (fun w => exists_f lo w (by omega))
    clear h a
    go_enter Tryz.func141, Tryz.ntmps141
    go_wp2_with fail
    refine (A.out _).mono ?_
    rintro e w1 ⟨rfl, rfl⟩
    go_wp2_with fail
    go_ret2
    exact ⟨rfl, rfl⟩
theorem range_bad2 (lo hi st : Int) (w : World) (a0 : 0 ≤ lo) (a1 : lo < 64) (b0 : 0 ≤ hi) (b1 : hi < 64) (h : hi < lo ∨ st < 1) :
    Calls Tryz.prog 141 #[.int .i64 lo, .int .i64 hi, .int .i64 st] w fun e w' => e = .returned (.tuple #[.int .u64 0, .int .i64 2]) ∧ w = w' := by
  have A := Lib.hid (fun w => exists_t lo w a0 a1)
  have B := Lib.hid (fun w => exists_t hi w b0 b1)
  by_cases c : hi < lo
  · have d : decide (hi < lo) = true := by simpa using c
    clear h c
    go_enter Tryz.func141, Tryz.ntmps141
    go_wp2_with fail
    refine (A.out _).mono ?_
    rintro e w1 ⟨rfl, rfl⟩
    go_wp2_with fail
    refine (B.out _).mono ?_
    rintro e w1 ⟨rfl, rfl⟩
    go_wp2_with fail
    go_ret2
    exact ⟨rfl, rfl⟩
  · have d : decide (hi < lo) = false := by simpa using c
    have d1 : decide (st < 1) = true := by simp; omega
    clear h c
    go_enter Tryz.func141, Tryz.ntmps141
    go_wp2_with fail
    refine (A.out _).mono ?_
    rintro e w1 ⟨rfl, rfl⟩
    go_wp2_with fail
    refine (B.out _).mono ?_
    rintro e w1 ⟨rfl, rfl⟩
    go_wp2_with fail
    go_ret2
    exact ⟨rfl, rfl⟩
theorem range_good (l h : Nat) (st : Int) (t : Nat) (w : World) (a : l ≤ h) (b : h < 64) (c : 1 ≤ t) (ht : min st 64 = t) (t64 : t ≤ 64) :
    Calls Tryz.prog 141 #[.int .i64 l, .int .i64 h, .int .i64 st] w fun e w' => e = .returned (.tuple #[.int .u64 (Bit.rangeS l h t : Nat), .int .i64 0]) ∧ w = w' := by
  have A := Lib.hid (fun w => exists_t (l : Int) w (by omega) (by omega))
  have B := Lib.hid (fun w => exists_t (h : Int) w (by omega) (by omega))
  have O := Lib.hid (fun (v : Nat) w (h : v < 64) => only_any v w h)
  have d : decide ((h : Int) < l) = false := by simp; omega
  have d0 : decide (h < l) = false := by simp; omega
  have d1 : decide (st < 1) = false := by simp; omega
  have R := Lib.hid (show ∀ x : Nat, x = Bit.rangeS l h t ↔ x = part l t ((h - l) / t + 1) from fun _ => Iff.rfl)
  have P := Lib.hid (part_succ l t)
  have PL := Lib.hid (fun k (h1 : k = 0 ∨ l + (k - 1) * t ≤ h) => part_lt h1 b)
  have st0 : 1 ≤ st := by omega
  go_enter Tryz.func141, Tryz.ntmps141
  go_wp2_with fail
  refine (A.out _).mono ?_
  rintro e w1 ⟨rfl, rfl⟩
  go_wp2_with fail
  refine (B.out _).mono ?_
  rintro e w1 ⟨rfl, rfl⟩
  go_wp2_with fail
  go_loop [8, 9] (fun s i => ∃ k v : Nat, v = l + k * t ∧ v ≤ 127 ∧ i = .int .i64 v ∧ s = .int .u64 (part l t k : Nat) ∧ (k = 0 ∨ l + (k - 1) * t ≤ h)) (fun _ i => 128 - (intOf i).toNat)
  case atStart => exact ⟨0, l, by omega, by omega, rfl, rfl, .inl rfl⟩
  case round =>
    obtain ⟨k, v, hv, v1, rfl, rfl, hk⟩ := hrel
    have V := Lib.hid hv
    have K := Lib.hid hk
    have pl := PL.out k hk
    have or_ : v < 64 → bits .or .u64 (part l t k : Nat) ((2 ^ v : Nat) : Int) = (part l t (k + 1) : Nat) := fun h => by
      rw [u64_or_nat _ _ pl (Bit.one_lt h), P.out k, ← hv]
    clear hv hk
    by_cases q : v ≤ h
    · have q1 : decide ((v : Int) ≤ h) = true := by simpa using q
      have q2 : decide (v ≤ h) = true := by simpa using q
      have or1 := or_ (by omega)
      have M := Lib.hid (O.out v · (by omega))
      obtain ⟨m, hm⟩ : ∃ m : Nat, 2 ^ v = m := ⟨_, rfl⟩
      obtain ⟨x, hx⟩ : ∃ x : Nat, part l t k = x := ⟨_, rfl⟩
      obtain ⟨y, hy⟩ : ∃ y : Nat, part l t (k + 1) = y := ⟨_, rfl⟩
      rw [hm] at M or1
      rw [hx, hy] at or1
      rw [hx] at pl ⊢
      have HY := Lib.hid hy
      clear or_ hm hx hy
      go_wp2_with fail
      refine (M.out _).mono ?_
      rintro e w1 ⟨rfl, rfl⟩
      go_wp2_with fail
      go_round
      case rel => exact ⟨k + 1, v + t, by rw [V.out, Nat.succ_mul]; omega, by omega, by go_num, by rw [HY.out], .inr (by rw [Nat.add_sub_cancel, ← V.out]; exact q)⟩
      case measure => simp [intOf]; omega
    · have q1 : decide ((v : Int) ≤ h) = false := by simpa using q
      have q2 : decide (v ≤ h) = false := by simpa using q
      have E : part l t k = Bit.rangeS l h t := by
        rw [R.out]
        have k1 : k = (h - l) / t + 1 := by
          have hv := V.out
          rcases K.out with rfl | z
          · omega
          · have a1 : k - 1 ≤ (h - l) / t := (Nat.le_div_iff_mul_le (by omega)).2 (by omega)
            have a2 : (h - l) / t < k := (Nat.div_lt_iff_lt_mul (by omega)).2 (by omega)
            omega
        rw [k1]
      clear or_
      go_wp2_with fail
      go_ret2
      exact ⟨rfl, rfl⟩
theorem range_any (lo hi st : Int) (s : Nat) (r : Int) (w : World) (hr : IsRange lo hi st s r) :
    Calls Tryz.prog 141 #[.int .i64 lo, .int .i64 hi, .int .i64 st] w fun e w' => e = .returned (.tuple #[.int .u64 s, .int .i64 r]) ∧ w = w' := by
  rcases hr with ⟨h, rfl, rfl⟩ | ⟨a0, a1, b0, b1, h, rfl, rfl⟩ | ⟨l, h, t, rfl, rfl, rfl, a, b, c, rfl, rfl⟩
  · exact range_bad1 lo hi st w h
  · exact range_bad2 lo hi st w a0 a1 b0 b1 h
  · by_cases q : t ≤ 64
    · exact range_good l h t t w a b c (by omega) q
    · rw [range_big a b (by omega)]
      exact range_good l h t 64 w a b (by omega) (by omega) (by omega)

end Go.Proofs.YtljackjcgfaanaaGreatDoor
