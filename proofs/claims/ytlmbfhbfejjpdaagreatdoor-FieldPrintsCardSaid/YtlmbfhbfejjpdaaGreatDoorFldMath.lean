/- Plain mathematics of fields of crontab expressions: numbers and names as they are read, items, lists of items, what is wrong with them, and their sets. No program stands here. -/
import Derived.Test.YtlmbfhbfejjpdaaGreatDoorBitMath
namespace Go.Proofs.YtlmbfhbfejjpdaaGreatDoor.Fld

def upN (c : Nat) : Bool := decide (65 ≤ c ∧ c ≤ 90)
def loN (c : Nat) : Bool := decide (97 ≤ c ∧ c ≤ 122)
def letN (c : Nat) : Bool := upN c || loN c
def digN (c : Nat) : Bool := decide (48 ≤ c ∧ c ≤ 57)
def isLet (c : UInt8) : Bool := letN c.toNat
def isDig (c : UInt8) : Bool := digN c.toNat
def isUp (c : UInt8) : Bool := upN c.toNat
/-- a letter in upper case -/
def up (c : UInt8) : UInt8 := if loN c.toNat then (c.toNat - 32).toUInt8 else c

/-- a kind whose numbers are not below 0 -/
structure Kd where
  lo : Nat
  hi : Nat
  names : List (List UInt8)
  week : Bool
/-- a kind that is valid -/
structure Kd.Ok (K : Kd) : Prop where
  le : K.lo ≤ K.hi
  hi : K.hi ≤ 62
  week : K.week = true → K.lo = 0 ∧ K.hi = 6
  count : K.names = [] ∨ K.names.length = K.hi - K.lo + 1
  ups : ∀ s ∈ K.names, 1 ≤ s.length ∧ s.length ≤ 9 ∧ ∀ c ∈ s, isUp c = true
  diff : K.names.Pairwise (· ≠ ·)

/-! what is read -/
def digs (l : List UInt8) : List UInt8 := (l.takeWhile isDig).take 2
def val (d : List UInt8) : Nat := d.foldl (fun a c => 10 * a + (c.toNat - 48)) 0
/-- a number, and how many bytes it has -/
def num (l : List UInt8) : Option (Nat × Nat) := if digs l = [] then none else some (val (digs l), (digs l).length)
def lets (l : List UInt8) : List UInt8 := l.takeWhile isLet
def look (names : List (List UInt8)) (u : List UInt8) : Option Nat := names.findIdx? (fun s => s == u.map up)
/-- a number or a name, and how many bytes it has -/
def value (K : Kd) (l : List UInt8) : Option (Nat × Nat) := if lets l = [] then num l else (look K.names (lets l)).map fun i => (K.lo + i, (lets l).length)
/-- an item: its first number, its last one, its step, and where they stand -/
structure It where
  f : Nat
  fa : Nat
  s : Nat
  sa : Nat
  t : Nat
  ta : Nat
/-- an item, the place behind it, and what is left; or the place at which there is none -/
abbrev Res : Type := (It × Nat × List UInt8) ⊕ Nat
def rStep (x : It) (l : List UInt8) (p : Nat) : Res :=
  match num l with
  | none => .inr p
  | some (n, k) => .inl ({ x with t := n, ta := p }, p + k, l.drop k)
def rNums (x : It) (l : List UInt8) (p : Nat) : Res := if l.head? = some 47 then rStep x l.tail (p + 1) else .inl (x, p, l)
def rSec (K : Kd) (x : It) (l : List UInt8) (p : Nat) : Res :=
  match value K l with
  | none => .inr p
  | some (v, k) => rNums { x with s := v, sa := p } (l.drop k) (p + k)
def rVal (K : Kd) (x : It) (l : List UInt8) (p : Nat) : Res :=
  if l.head? = some 45 then rSec K x l.tail (p + 1)
  else if l.head? = some 47 then rStep { x with s := max x.f K.hi } l.tail (p + 1)
  else .inl (x, p, l)
def item (K : Kd) (l : List UInt8) (p : Nat) : Res :=
  if l.head? = some 42 then rNums ⟨K.lo, 0, K.hi, 0, 1, 0⟩ l.tail (p + 1)
  else match value K l with
  | none => .inr p
  | some (v, k) => rVal K ⟨v, p, v, p, 1, 0⟩ (l.drop k) (p + k)

/-- the items of a text that are whole, and where it stops being a field, if it does -/
def scanF (K : Kd) : Nat → List UInt8 → Nat → List It × Option Nat
  | 0, _, p => ([], some p)
  | n + 1, l, p =>
    match item K l p with
    | .inr q => ([], some q)
    | .inl (x, q, r) => if r = [] then ([x], none) else if r.head? = some 44 then (x :: (scanF K n r.tail (q + 1)).1, (scanF K n r.tail (q + 1)).2) else ([], some q)
def scan (K : Kd) (l : List UInt8) (p : Nat) : List It × Option Nat := scanF K (l.length + 1) l p

/-! lengths and places -/
theorem digs_len (l : List UInt8) : (digs l).length ≤ 2 ∧ (digs l).length ≤ l.length := by
  unfold digs
  rw [List.length_take]
  have := (List.takeWhile_prefix (p := isDig) (l := l)).length_le
  omega
theorem num_len {l : List UInt8} {n k : Nat} (h : num l = some (n, k)) : 1 ≤ k ∧ k ≤ l.length ∧ k ≤ 2 := by
  unfold num at h
  split at h
  · cases h
  · rename_i hd
    simp only [Option.some.injEq, Prod.mk.injEq] at h
    have := digs_len l
    have : 1 ≤ (digs l).length := by
      cases e : digs l with
      | nil => exact (hd e).elim
      | cons a b => simp
    omega
theorem lets_len (l : List UInt8) : (lets l).length ≤ l.length := (List.takeWhile_prefix (p := isLet) (l := l)).length_le
theorem value_len {K : Kd} {l : List UInt8} {n k : Nat} (h : value K l = some (n, k)) : 1 ≤ k ∧ k ≤ l.length := by
  unfold value at h
  split at h
  · have := num_len h; omega
  · rename_i hd
    cases e : look K.names (lets l) with
    | none => rw [e] at h; cases h
    | some i =>
      rw [e] at h
      simp only [Option.map_some, Option.some.injEq, Prod.mk.injEq] at h
      have := lets_len l
      have : 1 ≤ (lets l).length := by
        cases e : lets l with
        | nil => exact (hd e).elim
        | cons a b => simp
      omega
/-- where the result of a part stands: from p on, within l -/
def At (l : List UInt8) (p : Nat) : Res → Prop
  | .inl (_, q, r) => p ≤ q ∧ q - p ≤ l.length ∧ r = l.drop (q - p)
  | .inr q => p ≤ q ∧ q - p ≤ l.length
theorem At.up {l l' : List UInt8} {p k : Nat} {r : Res} (h : At l' (p + k) r) (hk : k ≤ l.length) (e : l' = l.drop k) : At l p r := by
  subst e
  rcases r with ⟨x, q, r⟩ | q
  · obtain ⟨a, b, c⟩ := h
    rw [List.length_drop] at b
    refine ⟨by omega, by omega, ?_⟩
    rw [c, List.drop_drop]
    congr 1
    omega
  · obtain ⟨a, b⟩ := h
    rw [List.length_drop] at b
    exact ⟨by omega, by omega⟩
theorem At.here (x : It) (l : List UInt8) (p : Nat) : At l p (.inl (x, p, l)) := ⟨Nat.le_refl _, by omega, by simp⟩
theorem at_tail {l : List UInt8} {c : UInt8} (h : l.head? = some c) : l = c :: l.tail ∧ l.tail = l.drop 1 ∧ 1 ≤ l.length := by
  cases l with
  | nil => cases h
  | cons a r =>
    obtain rfl : a = c := by simpa using h
    simp
theorem rStep_at (x : It) (l : List UInt8) (p : Nat) : At l p (rStep x l p) := by
  unfold rStep
  split
  · exact ⟨Nat.le_refl _, by omega⟩
  · rename_i n k h
    have := num_len h
    exact ⟨by omega, by omega, by congr 1; omega⟩
theorem rNums_at (x : It) (l : List UInt8) (p : Nat) : At l p (rNums x l p) := by
  unfold rNums
  split
  · rename_i h
    obtain ⟨_, a, b⟩ := at_tail h
    exact (rStep_at x _ _).up b a
  · exact At.here x l p
theorem rSec_at (K : Kd) (x : It) (l : List UInt8) (p : Nat) : At l p (rSec K x l p) := by
  unfold rSec
  split
  · exact ⟨Nat.le_refl _, by omega⟩
  · rename_i n k h
    exact (rNums_at _ _ _).up (value_len h).2 rfl
theorem rVal_at (K : Kd) (x : It) (l : List UInt8) (p : Nat) : At l p (rVal K x l p) := by
  unfold rVal
  split
  · rename_i h
    obtain ⟨_, a, b⟩ := at_tail h
    exact (rSec_at K x _ _).up b a
  · split
    · rename_i h
      obtain ⟨_, a, b⟩ := at_tail h
      exact (rStep_at _ _ _).up b a
    · exact At.here x l p
theorem item_at (K : Kd) (l : List UInt8) (p : Nat) : At l p (item K l p) := by
  unfold item
  split
  · rename_i h
    obtain ⟨_, a, b⟩ := at_tail h
    exact (rNums_at _ _ _).up b a
  · split
    · exact ⟨Nat.le_refl _, by omega⟩
    · rename_i h
      exact (rVal_at K _ _ _).up (value_len h).2 rfl
theorem item_len {K : Kd} {l r : List UInt8} {p q : Nat} {x : It} (h : item K l p = .inl (x, q, r)) : p ≤ q ∧ q - p ≤ l.length ∧ r = l.drop (q - p) := by
  have := item_at K l p
  rw [h] at this
  exact this
theorem item_fail {K : Kd} {l : List UInt8} {p q : Nat} (h : item K l p = .inr q) : p ≤ q ∧ q - p ≤ l.length := by
  have := item_at K l p
  rw [h] at this
  exact this

/-! the list of items -/
theorem scanF_fuel (K : Kd) : ∀ (n m : Nat) (l : List UInt8) (p : Nat), l.length < n → l.length < m → scanF K n l p = scanF K m l p := by
  intro n
  induction n with
  | zero => intro m l p h; omega
  | succ n ih =>
    intro m l p h1 h2
    cases m with
    | zero => omega
    | succ m =>
      unfold scanF
      cases h : item K l p with
      | inr q => rfl
      | inl o =>
        obtain ⟨x, q, r⟩ := o
        obtain ⟨_, a, b⟩ := item_len h
        have hl : r.length ≤ l.length := by rw [b, List.length_drop]; omega
        show (if r = [] then _ else _) = (if r = [] then _ else _)
        split
        · rfl
        · rename_i hr
          have : r.tail.length < l.length := by
            cases r with
            | nil => exact (hr rfl).elim
            | cons a b => simp at hl ⊢; omega
          rw [ih m r.tail (q + 1) (by omega) (by omega)]
/-- what follows what has been read of an item -/
def go (K : Kd) : Res → List It × Option Nat
  | .inr q => ([], some q)
  | .inl (x, q, r) => if r = [] then ([x], none) else if r.head? = some 44 then (x :: (scan K r.tail (q + 1)).1, (scan K r.tail (q + 1)).2) else ([], some q)
theorem scan_go (K : Kd) (l : List UInt8) (p : Nat) : scan K l p = go K (item K l p) := by
  unfold scan
  rw [scanF]
  cases h : item K l p with
  | inr q => rfl
  | inl o =>
    obtain ⟨x, q, r⟩ := o
    obtain ⟨_, a, b⟩ := item_len h
    have hl : r.length ≤ l.length := by rw [b, List.length_drop]; omega
    show (if r = [] then _ else _) = (if r = [] then _ else _)
    split
    · rfl
    · rename_i hr
      have : r.tail.length < l.length := by
        cases r with
        | nil => exact (hr rfl).elim
        | cons a b => simp at hl ⊢; omega
      unfold scan
      rw [scanF_fuel K l.length (r.tail.length + 1) r.tail (q + 1) (by omega) (by omega)]
theorem go_end (K : Kd) (x : It) (q : Nat) : go K (.inl (x, q, [])) = ([x], none) := rfl
theorem go_comma (K : Kd) (x : It) (q : Nat) (r : List UInt8) : go K (.inl (x, q, 44 :: r)) = (x :: (scan K r (q + 1)).1, (scan K r (q + 1)).2) := by
  simp [go]
theorem go_junk (K : Kd) (x : It) (q : Nat) (c : UInt8) (r : List UInt8) (h : c ≠ 44) : go K (.inl (x, q, c :: r)) = ([], some q) := by
  simp [go, h]
theorem go_fail (K : Kd) (q : Nat) : go K (.inr q) = ([], some q) := rfl

/-! what is wrong, and sets -/
def has (K : Kd) (v : Nat) : Prop := (K.lo ≤ v ∧ v ≤ K.hi) ∨ (K.week = true ∧ v = 7)
instance (K : Kd) (v : Nat) : Decidable (has K v) := by unfold has; infer_instance
def wrong (K : Kd) (x : It) : Option Nat :=
  if ¬ has K x.f then some x.fa else if ¬ has K x.s then some x.sa else if x.s < x.f then some x.fa else if x.t = 0 then some x.ta else none
def fold7 (K : Kd) (S : Nat) : Nat := if K.week = true ∧ S.testBit 7 = true then (S &&& (18446744073709551615 - 128)) ||| 1 else S
def setOf (K : Kd) (x : It) : Nat := fold7 K (Bit.rangeS x.f x.s x.t)
def total (K : Kd) (xs : List It) : Nat := xs.foldl (fun S x => S ||| setOf K x) 0
def bad (K : Kd) (xs : List It) : Option Nat := xs.findSome? (wrong K)
/-- what Parse returns for a valid kind: the set, whether the field is a star, the place, the error -/
def parse (K : Kd) (l : List UInt8) : Nat × Bool × Nat × Nat :=
  match (scan K l 0).2 with
  | some q => (0, false, q, 10)
  | none => match bad K (scan K l 0).1 with
    | some a => (0, false, a, 2)
    | none => (total K (scan K l 0).1, l == [42], 0, 0)
theorem wrong_none {K : Kd} {x : It} : wrong K x = none ↔ has K x.f ∧ has K x.s ∧ x.f ≤ x.s ∧ 1 ≤ x.t := by
  unfold wrong
  constructor
  · intro h
    split at h
    · cases h
    · split at h
      · cases h
      · split at h
        · cases h
        · split at h
          · cases h
          · rename_i a b c d
            refine ⟨by simpa using a, by simpa using b, by omega, by omega⟩
  · rintro ⟨a, b, c, d⟩
    rw [if_neg (by simpa using a), if_neg (by simpa using b), if_neg (by omega), if_neg (by omega)]
theorem total_snoc (K : Kd) (xs : List It) (x : It) : total K (xs ++ [x]) = total K xs ||| setOf K x := by
  unfold total; rw [List.foldl_append]; rfl
theorem total_app (K : Kd) (xs ys : List It) : total K (xs ++ ys) = total K xs ||| total K ys := by
  unfold total
  rw [List.foldl_append]
  generalize xs.foldl (fun S x => S ||| setOf K x) 0 = A
  have : ∀ (ys : List It) (A B : Nat), ys.foldl (fun S x => S ||| setOf K x) (A ||| B) = A ||| ys.foldl (fun S x => S ||| setOf K x) B := by
    intro ys
    induction ys with
    | nil => intro A B; rfl
    | cons y r ih => intro A B; simp only [List.foldl_cons]; rw [Nat.or_assoc, ih]
  have h := this ys A 0
  simpa using h
theorem bad_snoc (K : Kd) (xs : List It) (x : It) : bad K (xs ++ [x]) = (bad K xs).or (wrong K x) := by
  unfold bad
  rw [List.findSome?_append]
  congr 1
  simp only [List.findSome?_cons, List.findSome?_nil]
  cases wrong K x <;> rfl
theorem bad_app (K : Kd) (xs ys : List It) : bad K (xs ++ ys) = (bad K xs).or (bad K ys) := by
  unfold bad
  rw [List.findSome?_append]
theorem bad_none {K : Kd} {xs : List It} : bad K xs = none ↔ ∀ x ∈ xs, wrong K x = none := by
  unfold bad; rw [List.findSome?_eq_none_iff]
theorem has_lt {K : Kd} (O : K.Ok) {v : Nat} (h : has K v) : v < 63 := by
  rcases h with ⟨_, h⟩ | ⟨_, h⟩
  · have := O.hi; omega
  · omega
/-- the numbers of an item that is right -/
theorem setOf_bit {K : Kd} (O : K.Ok) {x : It} (h : wrong K x = none) (v : Nat) :
    (setOf K x).testBit v = decide ((K.lo ≤ v ∧ v ≤ K.hi) ∧ ((x.f ≤ v ∧ v ≤ x.s ∧ (v - x.f) % x.t = 0) ∨ (K.week = true ∧ v = 0 ∧ x.f ≤ 7 ∧ 7 ≤ x.s ∧ (7 - x.f) % x.t = 0))) := by
  obtain ⟨h1, h2, h3, h4⟩ := wrong_none.1 h
  have b := fun v => Bit.rangeS_bit (lo := x.f) (hi := x.s) (step := x.t) (v := v) h3 h4
  have hs := has_lt O h2
  unfold setOf fold7
  by_cases w : K.week = true
  · obtain ⟨w1, w2⟩ := O.week w
    unfold has at h1 h2
    by_cases c : (Bit.rangeS x.f x.s x.t).testBit 7 = true
    · rw [if_pos ⟨w, c⟩, Nat.testBit_or, Nat.testBit_and]
      rw [b] at c
      have c := of_decide_eq_true c
      have m : (18446744073709551615 - 128 : Nat).testBit v = (decide (v < 64) && !decide (v = 7)) := by
        have e : (18446744073709551615 - 128 : Nat) = 2 ^ 64 - (128 + 1) := by decide
        rw [e, Nat.testBit_two_pow_sub_succ (by decide), show (128 : Nat) = 2 ^ 7 from rfl, Nat.testBit_two_pow]
        congr 2
        rw [Bool.eq_iff_iff]
        simp only [decide_eq_true_iff]
        omega
      have o : (1 : Nat).testBit v = decide (v = 0) := by
        rw [show (1 : Nat) = 2 ^ 0 from rfl, Nat.testBit_two_pow]
        rw [Bool.eq_iff_iff]
        simp only [decide_eq_true_iff]
        omega
      rw [b, m, o, Bool.eq_iff_iff]
      simp only [Bool.or_eq_true, Bool.and_eq_true, decide_eq_true_iff, Bool.not_eq_true', decide_eq_false_iff_not, w1, w2, w, true_and]
      constructor
      · rintro (⟨⟨a1, a2, a3⟩, a4, a5⟩ | rfl)
        · exact ⟨⟨by omega, by omega⟩, .inl ⟨a1, a2, a3⟩⟩
        · exact ⟨⟨by omega, by omega⟩, .inr ⟨rfl, c.1, c.2.1, c.2.2⟩⟩
      · rintro ⟨⟨_, a1⟩, (⟨a2, a3, a4⟩ | ⟨rfl, _⟩)⟩
        · exact .inl ⟨⟨a2, a3, a4⟩, by omega, by omega⟩
        · exact .inr rfl
    · rw [if_neg (fun q => c q.2), b]
      rw [b] at c
      have c : ¬ (x.f ≤ 7 ∧ 7 ≤ x.s ∧ (7 - x.f) % x.t = 0) := by simpa using c
      rw [Bool.eq_iff_iff]
      simp only [decide_eq_true_iff, w1, w2, w, true_and]
      constructor
      · rintro ⟨a1, a2, a3⟩
        have : v ≠ 7 := by rintro rfl; exact c ⟨a1, a2, a3⟩
        exact ⟨⟨by omega, by omega⟩, .inl ⟨a1, a2, a3⟩⟩
      · rintro ⟨_, (a | ⟨_, a⟩)⟩
        · exact a
        · exact (c a).elim
  · have w0 : K.week = false := by simpa using w
    rw [if_neg (fun q => w q.1), b, Bool.eq_iff_iff]
    unfold has at h1 h2
    rw [w0] at h1 h2 ⊢
    simp only [decide_eq_true_iff]
    constructor
    · rintro ⟨a1, a2, a3⟩
      refine ⟨⟨?_, ?_⟩, .inl ⟨a1, a2, a3⟩⟩
      · rcases h1 with h1 | ⟨q, _⟩
        · omega
        · cases q
      · rcases h2 with h2 | ⟨q, _⟩
        · omega
        · cases q
    · rintro ⟨_, (a | ⟨a, _⟩)⟩
      · exact a
      · cases a
end Go.Proofs.YtlmbfhbfejjpdaaGreatDoor.Fld
