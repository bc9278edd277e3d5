/- Contracts of math/bits' TrailingZeros64 (the smallest number of a set), Len64 (the greatest one), OnesCount64 (how many there are). -/
import Derived.Test.YtlmbfhbfejjpdaaGreatDoorBitA
import Derived.Test.YtlmbfhbfejjpdaaGreatDoorShelf
import Derived.Lib.TrailingZeros
import Derived.Laws.Bits64b
import Derived.BigQuiet
import Derived.ChangeOld
namespace Go.Proofs.YtlmbfhbfejjpdaaGreatDoor
open Go.ChangeShapes Go.RowKit

/-- the table of math/bits, as the program lays it -/
structure Lay (w : World) : Prop where
  c : ∀ j, j < 64 → w.cell? ⟨3, j, none⟩ = some (.int .u8 (Lib.deBruijn64tab.getD j 0 : Nat))
  lt : 3 < w.heap.size
theorem Lay.below {w w' : World} (L : Lay w) (h : Below w.heap.size w w') : Lay w' where
  c := fun j hj => (h.cell (p := ⟨3, j, none⟩) L.lt).trans (L.c j hj)
  lt := Nat.lt_of_lt_of_le L.lt h.size
theorem Lay.alloc {w : World} (L : Lay w) (o : Obj) : Lay (w.alloc o) := L.below ((Below.refl _ _).alloc (Nat.le_refl _) _)

/-- k is the smallest number of T -/
def Least (T k : Nat) : Prop := T.testBit k = true ∧ ∀ j, j < k → T.testBit j = false
theorem odd_bit (k m : Nat) : Least (2 ^ k * (2 * m + 1)) k := by
  constructor
  · rw [Nat.testBit_eq_decide_div_mod_eq, Nat.mul_div_cancel_left _ (Nat.two_pow_pos k)]
    simp
  · intro j hj
    obtain ⟨d, rfl⟩ : ∃ d, k = j + (d + 1) := ⟨k - j - 1, by omega⟩
    rw [Nat.testBit_eq_decide_div_mod_eq, Nat.pow_add, Nat.mul_assoc, Nat.mul_div_cancel_left _ (Nat.two_pow_pos j), Nat.pow_succ]
    simp [Nat.mul_comm, Nat.mul_left_comm]
theorem least_one {T k k' : Nat} (h : Least T k) (h' : Least T k') : k = k' := by
  rcases Nat.lt_trichotomy k k' with c | c | c
  · have := h'.2 k c; rw [h.1] at this; cases this
  · exact c
  · have := h.2 k' c; rw [h'.1] at this; cases this
theorem least_ctz {T : Nat} (h0 : T ≠ 0) (hT : T < 2 ^ 64) : Least T (Lib.ctz 64 T) ∧ Lib.ctz 64 T < 64 := by
  obtain ⟨m, hm, hk⟩ := Lib.ctzFrom_spec 64 T (by omega) hT
  have e : Lib.ctz 64 T = Lib.ctzFrom 64 T := by simp [Lib.ctz, h0]
  rw [e]
  refine ⟨?_, hk⟩
  have := odd_bit (Lib.ctzFrom 64 T) m
  rw [← hm] at this
  exact this

theorem tz_core (x k idx : Nat) (w : World) (hx0 : ((x : Int) == 0) = false)
    (key : IntKind.u64.wrap (bits BinOp.and IntKind.u64 (x : Int) (IntKind.u64.wrap (-(x : Int))) * 285870213051353865) / 288230376151711744 = (idx : Int))
    (hi : idx < 64) (hk : k < 64) (hcell : w.cell? ⟨3, idx, none⟩ = some (.int .u8 k)) :
    Calls Tryz.prog 86 #[.int .u64 x] w fun e w' => e = .returned (.int .i64 k) ∧ w = w' := by
  go_enter Tryz.func86, Tryz.ntmps86
  go_wp2_with (simp only [key])
  go_ret
  exact ⟨rfl, rfl⟩
theorem tz_key (x a : Nat) (hx : x < 18446744073709551616) (hx0 : x ≠ 0) (hlow : x &&& (18446744073709551616 - x) = a) :
    IntKind.u64.wrap (bits BinOp.and IntKind.u64 (x : Int) (IntKind.u64.wrap (-(x : Int))) * 285870213051353865) / 288230376151711744 = ((a * 285870213051353865 % 18446744073709551616 / 288230376151711744 : Nat) : Int) := by
  have e1 : IntKind.u64.wrap (-(x : Int)) = ((18446744073709551616 - x : Nat) : Int) := by rw [IntKind.wrap_u64]; omega
  rw [e1, u64_and_nat x _ hx (by omega), hlow, IntKind.wrap_u64]
  omega
theorem tz_any (T k : Nat) (w : World) (L : Lay w) (h0 : T ≠ 0) (hT : T < 2 ^ 64) (h : Least T k) :
    Calls Tryz.prog 86 #[.int .u64 T] w fun e w' => e = .returned (.int .i64 k) ∧ w = w' := by
  obtain ⟨hl, hk⟩ := least_ctz h0 hT
  obtain rfl := least_one h hl
  obtain ⟨hlow, _⟩ := Lib.lowest_bit 64 T h0 hT
  obtain ⟨hi, htab⟩ := Lib.deBruijn64_at _ hk
  have hcell := L.c _ hi
  rw [htab] at hcell
  exact tz_core T _ _ w (by simp; omega) (tz_key T _ hT h0 hlow) hi hk hcell

/-- k is the greatest number of T -/
def Most (T k : Nat) : Prop := T.testBit k = true ∧ ∀ j, k < j → T.testBit j = false
theorem most_len {T k : Nat} (hT : T < 2 ^ 64) (h : Most T k) : Lib.bitLen T = k + 1 := by
  have a : 2 ^ k ≤ T := Nat.ge_two_pow_of_testBit h.1
  have b : T < 2 ^ (k + 1) := Nat.lt_pow_two_of_testBit T fun i hi => h.2 i (by omega)
  rw [Lib.bitLen_shift k T a hT]
  have : T / 2 ^ k = 1 := by
    have a' : 1 ≤ T / 2 ^ k := (Nat.le_div_iff_mul_le (Nat.two_pow_pos k)).2 (by omega)
    have b' : T / 2 ^ k < 2 := (Nat.div_lt_iff_lt_mul (Nat.two_pow_pos k)).2 (by rw [Nat.pow_succ] at b; omega)
    omega
  rw [this]
  rfl
theorem len_any (T k : Nat) (w : World) (hT : T < 2 ^ 64) (h : Most T k) :
    Calls Tryz.prog 106 #[.int .u64 T] w fun e w' => e = .returned (.int .i64 ((k + 1 : Nat) : Int)) ∧ w = w' := by
  refine (Tryz.bits_Len64 (T : Int) w (by omega) (by omega)).mono ?_
  rintro e w' ⟨rfl, rfl⟩
  refine ⟨ret_int ?_, rfl⟩
  rw [Int.toNat_natCast, most_len hT h]

/-! Next, Prev: which number they return -/
/-- r is the next number from v on -/
structure Nxt (S : Nat) (v : Int) (r : Nat) : Prop where
  has : S.testBit r = true
  ge : v ≤ r
  min : ∀ j, S.testBit j = true → v ≤ j → r ≤ j
def NoNxt (S : Nat) (v : Int) : Prop := ∀ j, S.testBit j = true → (j : Int) < v
/-- r is the number before, from v down -/
structure Prv (S : Nat) (v : Int) (r : Nat) : Prop where
  has : S.testBit r = true
  le : (r : Int) ≤ v
  max : ∀ j, S.testBit j = true → (j : Int) ≤ v → j ≤ r
def NoPrv (S : Nat) (v : Int) : Prop := ∀ j, S.testBit j = true → v < (j : Int)
theorem Nxt.least {S : Nat} {v : Int} {r : Nat} (hS : S < 2 ^ 64) (h : Nxt S v r) : Least (from_ S v) r := by
  constructor
  · rw [from_bit hS, h.has]; simpa using h.ge
  · intro j hj
    rw [from_bit hS]
    by_cases c : S.testBit j = true
    · have : ¬ v ≤ j := fun q => by have := h.min j c q; omega
      simp [this]
    · have c : S.testBit j = false := by simpa using c
      rw [c]; rfl
theorem Nxt.ne {S : Nat} {v : Int} {r : Nat} (hS : S < 2 ^ 64) (h : Nxt S v r) : from_ S v ≠ 0 := by
  intro e
  have := (h.least hS).1
  rw [e, Nat.zero_testBit] at this
  cases this
theorem NoNxt.zero {S : Nat} {v : Int} (hS : S < 2 ^ 64) (h : NoNxt S v) : from_ S v = 0 := by
  apply Bit.ext64 (from_lt hS v) (by decide)
  intro j hj
  rw [from_bit hS, Nat.zero_testBit]
  by_cases c : S.testBit j = true
  · have := h j c
    have : ¬ v ≤ j := by omega
    simp [this]
  · have c : S.testBit j = false := by simpa using c
    rw [c]; rfl
theorem nxt_ex {S : Nat} (v : Int) (hS : S < 2 ^ 64) : NoNxt S v ∨ ∃ r, Nxt S v r := by
  by_cases c : from_ S v = 0
  · left
    intro j hj
    have k := from_bit hS v j
    rw [c, Nat.zero_testBit, hj] at k
    simp at k
    omega
  · right
    obtain ⟨hl, _⟩ := least_ctz c (from_lt hS v)
    generalize Lib.ctz 64 (from_ S v) = r at hl
    obtain ⟨h1, h2⟩ := hl
    rw [from_bit hS] at h1
    simp at h1
    refine ⟨r, h1.1, h1.2, fun j a b => ?_⟩
    by_cases q : j < r
    · have k := h2 j q
      rw [from_bit hS, a] at k
      simp at k
      omega
    · omega
theorem nxt_lt {S : Nat} {v : Int} {r : Nat} (hS : S < 2 ^ 64) (h : Nxt S v r) : r < 64 := set_hi hS h.has
theorem prv_lt {S : Nat} {v : Int} {r : Nat} (hS : S < 2 ^ 64) (h : Prv S v r) : r < 64 := set_hi hS h.has
theorem prv_ex {S : Nat} (v : Int) (hS : S < 2 ^ 64) : NoPrv S v ∨ ∃ r, Prv S v r := by
  have key : ∀ n : Nat, (∀ j, S.testBit j = true → (j : Int) ≤ v → j < n) → NoPrv S v ∨ ∃ r, Prv S v r := by
    intro n
    induction n with
    | zero =>
      intro h
      left
      intro j hj
      by_cases c : (j : Int) ≤ v
      · have := h j hj c; omega
      · omega
    | succ n ih =>
      intro h
      by_cases c : S.testBit n = true ∧ (n : Int) ≤ v
      · right
        exact ⟨n, c.1, c.2, fun j a b => by have := h j a b; omega⟩
      · refine ih fun j a b => ?_
        have := h j a b
        by_cases e : j = n
        · subst e; exact absurd ⟨a, b⟩ c
        · omega
  exact key 64 fun j a _ => set_hi hS a
theorem Prv.most {S : Nat} {v u : Int} {r : Nat} (hS : S < 2 ^ 64) (h : Prv S v r) (hu : ∀ j : Nat, j < 64 → ((j : Int) < u ↔ (j : Int) ≤ v)) : Most (upto S u) r := by
  constructor
  · rw [upto_bit hS, h.has]
    simpa using (hu r (prv_lt hS h)).2 h.le
  · intro j hj
    rw [upto_bit hS]
    by_cases c : S.testBit j = true
    · have : ¬ (j : Int) < u := fun q => by have := h.max j c ((hu j (set_hi hS c)).1 q); omega
      simp [this]
    · have c : S.testBit j = false := by simpa using c
      rw [c]; rfl
theorem Prv.ne {S : Nat} {v u : Int} {r : Nat} (hS : S < 2 ^ 64) (h : Prv S v r) (hu : ∀ j : Nat, j < 64 → ((j : Int) < u ↔ (j : Int) ≤ v)) : upto S u ≠ 0 := by
  intro e
  have := (h.most hS hu).1
  rw [e, Nat.zero_testBit] at this
  cases this
theorem NoPrv.zero {S : Nat} {v u : Int} (hS : S < 2 ^ 64) (h : NoPrv S v) (hu : ∀ j : Nat, j < 64 → ((j : Int) < u ↔ (j : Int) ≤ v)) : upto S u = 0 := by
  apply Bit.ext64 (upto_lt hS u) (by decide)
  intro j hj
  rw [upto_bit hS, Nat.zero_testBit]
  by_cases c : S.testBit j = true
  · have := h j c
    have : ¬ (j : Int) < u := fun q => by have := (hu j hj).1 q; omega
    simp [this]
  · have c : S.testBit j = false := by simpa using c
    rw [c]; rfl

theorem next_yes (S : Nat) (v : Int) (r : Nat) (w : World) (L : Lay w) (hS : S < 2 ^ 64) (v1 : v ≤ 9223372036854775807) (h : Nxt S v r) :
    Calls Tryz.prog 70 #[.int .u64 S, .int .i64 v] w fun e w' => e = .returned (.tuple #[.int .i64 r, .bool true]) ∧ w = w' := by
  have B := Lib.hid (fun w => below_any v w v1)
  have a : bits .andNot .u64 (S : Int) (low v : Nat) = (from_ S v : Nat) := u64_andNot_nat S (low v) hS (low_lt v)
  have Z := Lib.hid (fun w (L : Lay w) => tz_any (from_ S v) r w L (h.ne hS) (from_lt hS v) (h.least hS))
  have ne : (((from_ S v : Nat) : Int) == 0) = false := by
    have := h.ne hS
    rw [beq_eq_false_iff_ne]; omega
  obtain ⟨T, hT⟩ : ∃ T, from_ S v = T := ⟨_, rfl⟩
  obtain ⟨M, hM⟩ : ∃ M, low v = M := ⟨_, rfl⟩
  rw [hT] at a Z ne
  rw [hM] at a B
  clear hT hM h
  go_enter Tryz.func70, Tryz.ntmps70
  go_wp2_with fail
  refine (B.out _).mono ?_
  rintro e w1 ⟨rfl, rfl⟩
  go_wp2_with fail
  refine (Z.out _ L).mono ?_
  rintro e w1 ⟨rfl, rfl⟩
  go_wp2_with fail
  go_ret2
  exact ⟨rfl, rfl⟩
theorem next_no (S : Nat) (v : Int) (w : World) (hS : S < 2 ^ 64) (v1 : v ≤ 9223372036854775807) (h : NoNxt S v) :
    Calls Tryz.prog 70 #[.int .u64 S, .int .i64 v] w fun e w' => e = .returned (.tuple #[.int .i64 0, .bool false]) ∧ w = w' := by
  have B := Lib.hid (fun w => below_any v w v1)
  have a : bits .andNot .u64 (S : Int) (low v : Nat) = 0 := by
    rw [u64_andNot_nat S (low v) hS (low_lt v)]
    exact congrArg Int.ofNat (h.zero hS)
  obtain ⟨M, hM⟩ : ∃ M, low v = M := ⟨_, rfl⟩
  rw [hM] at a B
  clear hM h
  go_enter Tryz.func70, Tryz.ntmps70
  go_wp2_with fail
  refine (B.out _).mono ?_
  rintro e w1 ⟨rfl, rfl⟩
  go_wp2_with fail
  go_ret2
  exact ⟨rfl, rfl⟩
end Go.Proofs.YtlmbfhbfejjpdaaGreatDoor
