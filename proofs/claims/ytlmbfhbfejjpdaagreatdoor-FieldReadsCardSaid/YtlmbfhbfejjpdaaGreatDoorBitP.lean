/- Plain mathematics of the count of a number's bits, eight bits at a time; the contract of OnesCount64, and of Count of package bits. -/
import Derived.Test.YtlmbfhbfejjpdaaGreatDoorBitH
namespace Go.Proofs.YtlmbfhbfejjpdaaGreatDoor
open Go.ChangeShapes Go.RowKit

namespace Pop
theorem and256 {a b c d : Nat} (hb : b < 256) (hd : d < 256) : (a * 256 + b) &&& (c * 256 + d) = (a &&& c) * 256 + (b &&& d) := by
  have h1 : ((a * 256 + b) &&& (c * 256 + d)) / 2 ^ 8 = (a * 256 + b) / 2 ^ 8 &&& (c * 256 + d) / 2 ^ 8 := Nat.and_div_two_pow
  have h2 : ((a * 256 + b) &&& (c * 256 + d)) % 2 ^ 8 = ((a * 256 + b) % 2 ^ 8) &&& ((c * 256 + d) % 2 ^ 8) := Nat.and_mod_two_pow
  rw [show (a * 256 + b) / 2 ^ 8 = a by omega, show (c * 256 + d) / 2 ^ 8 = c by omega] at h1
  rw [show (a * 256 + b) % 2 ^ 8 = b by omega, show (c * 256 + d) % 2 ^ 8 = d by omega] at h2
  omega
def val : List Nat → Nat
  | [] => 0
  | b :: r => val r * 256 + b
def mask (m : Nat) (l : List Nat) : Nat := val (l.map fun _ => m)
def g1 (b : Nat) : Nat := (b / 2 &&& 85) + (b &&& 85)
def g2 (b : Nat) : Nat := (b / 4 &&& 51) + (b &&& 51)
def g3 (b : Nat) : Nat := (b / 16 + b) &&& 15
theorem dec1 : ∀ b : Fin 256, ∀ q : Fin 2, (q.val * 128 + b.val / 2) &&& 85 = (b.val / 2 &&& 85) := by decide +kernel
theorem dec2 : ∀ b : Fin 256, ∀ q : Fin 4, (q.val * 64 + b.val / 4) &&& 51 = (b.val / 4 &&& 51) := by decide +kernel
theorem dec3 : ∀ q : Fin 5, ∀ b : Fin 256, b.val % 16 ≤ 4 → b.val / 16 ≤ 4 → (q.val * 16 + b.val / 16 + b.val) < 256 ∧ (q.val * 16 + b.val / 16 + b.val) &&& 15 = g3 b.val := by decide +kernel
theorem dec4 : ∀ b : Fin 256, g1 b.val < 256 ∧ g2 (g1 b.val) < 256 ∧ g2 (g1 b.val) % 16 ≤ 4 ∧ g2 (g1 b.val) / 16 ≤ 4 ∧ g3 (g2 (g1 b.val)) = (Bit.memTo b.val 8).length := by decide +kernel
theorem step1 (l : List Nat) (h : ∀ b ∈ l, b < 256) : (val l / 2 &&& mask 85 l) + (val l &&& mask 85 l) = val (l.map g1) := by
  induction l with
  | nil => rfl
  | cons b r ih =>
    have hb : b < 256 := h b (by simp)
    have ih := ih (fun x hx => h x (by simp [hx]))
    unfold mask at ih ⊢
    simp only [List.map_cons, val]
    have e : (val r * 256 + b) / 2 = (val r / 2) * 256 + (val r % 2 * 128 + b / 2) := by omega
    have d := dec1 ⟨b, hb⟩ ⟨val r % 2, by omega⟩
    simp only at d
    rw [e, and256 (by omega) (by decide), and256 hb (by decide), d]
    show _ = _ * 256 + ((b / 2 &&& 85) + (b &&& 85))
    omega
theorem step2 (l : List Nat) (h : ∀ b ∈ l, b < 256) : (val l / 4 &&& mask 51 l) + (val l &&& mask 51 l) = val (l.map g2) := by
  induction l with
  | nil => rfl
  | cons b r ih =>
    have hb : b < 256 := h b (by simp)
    have ih := ih (fun x hx => h x (by simp [hx]))
    unfold mask at ih ⊢
    simp only [List.map_cons, val]
    have e : (val r * 256 + b) / 4 = (val r / 4) * 256 + (val r % 4 * 64 + b / 4) := by omega
    have d := dec2 ⟨b, hb⟩ ⟨val r % 4, by omega⟩
    simp only at d
    rw [e, and256 (by omega) (by decide), and256 hb (by decide), d]
    show _ = _ * 256 + ((b / 4 &&& 51) + (b &&& 51))
    omega
theorem step3 (l : List Nat) (h : ∀ b ∈ l, b < 256 ∧ b % 16 ≤ 4 ∧ b / 16 ≤ 4) : (val l / 16 + val l) &&& mask 15 l = val (l.map g3) := by
  induction l with
  | nil => rfl
  | cons b r ih =>
    obtain ⟨hb, h1, h2⟩ := h b (by simp)
    have ih := ih (fun x hx => h x (by simp [hx]))
    have q : val r % 16 ≤ 4 := by
      cases r with
      | nil => simp [val]
      | cons c s =>
        have := (h c (by simp)).2.1
        simp only [val]; omega
    unfold mask at ih ⊢
    simp only [List.map_cons, val]
    have d := dec3 ⟨val r % 16, by omega⟩ ⟨b, hb⟩ h1 h2
    simp only at d
    have e : (val r * 256 + b) / 16 + (val r * 256 + b) = (val r / 16 + val r) * 256 + (val r % 16 * 16 + b / 16 + b) := by omega
    rw [e, and256 d.1 (by decide), ih, d.2]
def bytes (x : Nat) : List Nat := [x % 256, x / 256 % 256, x / 65536 % 256, x / 16777216 % 256, x / 4294967296 % 256, x / 1099511627776 % 256, x / 281474976710656 % 256, x / 72057594037927936]
theorem val_bytes (x : Nat) : val (bytes x) = x := by
  simp only [bytes, val]; omega
theorem bytes_lt {x : Nat} (h : x < 2 ^ 64) : ∀ b ∈ bytes x, b < 256 := by
  intro b hb
  simp only [bytes, List.mem_cons, List.not_mem_nil, or_false] at hb
  omega
theorem memTo_256 {a b : Nat} (hb : b < 256) (k : Nat) : (Bit.memTo (a * 256 + b) (8 + k)).length = (Bit.memTo b 8).length + (Bit.memTo a k).length := by
  have tb : ∀ j, (a * 256 + b).testBit j = if j < 8 then b.testBit j else a.testBit (j - 8) := fun j => by
    have := Nat.testBit_two_pow_mul_add a (show b < 2 ^ 8 by omega) j
    rwa [Nat.mul_comm] at this
  unfold Bit.memTo
  rw [show List.range' 0 (8 + k) = List.range' 0 8 ++ List.range' 8 k by rw [← List.range'_append_1], List.filter_append, List.length_append]
  congr 1
  · congr 1
    apply List.filter_congr
    intro j hj
    rw [tb, if_pos (by simpa using (List.mem_range'_1.1 hj).2)]
  · rw [show List.range' 8 k = (List.range' 0 k).map (8 + ·) by rw [List.map_add_range'], List.filter_map, List.length_map]
    congr 1
    apply List.filter_congr
    intro j hj
    simp only [Function.comp]
    rw [tb, if_neg (by omega), Nat.add_sub_cancel_left]
theorem sum_bytes (x : Nat) : (Bit.memTo x 64).length = (Bit.memTo (x % 256) 8).length + (Bit.memTo (x / 256 % 256) 8).length + (Bit.memTo (x / 65536 % 256) 8).length + (Bit.memTo (x / 16777216 % 256) 8).length + (Bit.memTo (x / 4294967296 % 256) 8).length + (Bit.memTo (x / 1099511627776 % 256) 8).length + (Bit.memTo (x / 281474976710656 % 256) 8).length + (Bit.memTo (x / 72057594037927936) 8).length := by
  have st : ∀ y k, (Bit.memTo y (8 + k)).length = (Bit.memTo (y % 256) 8).length + (Bit.memTo (y / 256) k).length := fun y k => by
    have := memTo_256 (a := y / 256) (b := y % 256) (by omega) k
    rwa [show y / 256 * 256 + y % 256 = y by omega] at this
  rw [show (64 : Nat) = 8 + 56 from rfl, st x 56, show (56 : Nat) = 8 + 48 from rfl, st _ 48, show (48 : Nat) = 8 + 40 from rfl, st _ 40, show (40 : Nat) = 8 + 32 from rfl, st _ 32, show (32 : Nat) = 8 + 24 from rfl, st _ 24, show (24 : Nat) = 8 + 16 from rfl, st _ 16, show (16 : Nat) = 8 + 8 from rfl, st _ 8]
  simp only [Nat.div_div_eq_div_mul, Nat.reduceMul]
  omega
/-- the three steps, on a number of 64 bits -/
theorem three {x : Nat} (h : x < 2 ^ 64) : ∃ x1 x2 h0 h1 h2 h3 h4 h5 h6 h7 : Nat,
    (x / 2 &&& 6148914691236517205) + (x &&& 6148914691236517205) = x1 ∧ x1 < 2 ^ 64 ∧
    (x1 / 4 &&& 3689348814741910323) + (x1 &&& 3689348814741910323) = x2 ∧ x2 / 16 + x2 < 2 ^ 64 ∧
    (x2 / 16 + x2) &&& 1085102592571150095 = h0 + h1 * 256 + h2 * 65536 + h3 * 16777216 + h4 * 4294967296 + h5 * 1099511627776 + h6 * 281474976710656 + h7 * 72057594037927936 ∧
    (h0 ≤ 8 ∧ h1 ≤ 8 ∧ h2 ≤ 8 ∧ h3 ≤ 8 ∧ h4 ≤ 8 ∧ h5 ≤ 8 ∧ h6 ≤ 8 ∧ h7 ≤ 8) ∧ h0 + h1 + h2 + h3 + h4 + h5 + h6 + h7 = (Bit.mem x).length := by
  have hb := bytes_lt h
  have d := fun b (hb : b < 256) => dec4 ⟨b, hb⟩
  simp only at d
  have s1 := step1 (bytes x) hb
  have s2 := step2 ((bytes x).map g1) (fun b hq => by obtain ⟨c, hc, rfl⟩ := List.mem_map.1 hq; exact (d c (hb c hc)).1)
  have s3 := step3 (((bytes x).map g1).map g2) (fun b hq => by
    obtain ⟨c', hc', rfl⟩ := List.mem_map.1 hq
    obtain ⟨c, hc, rfl⟩ := List.mem_map.1 hc'
    exact ⟨(d c (hb c hc)).2.1, (d c (hb c hc)).2.2.1, (d c (hb c hc)).2.2.2.1⟩)
  rw [val_bytes] at s1
  have sb := sum_bytes x
  rw [Bit.memTo_all] at sb
  have e := fun b (hb : b < 256) => (d b hb).2.2.2.2
  have l8 := fun b => Bit.memTo_len b 8
  have hb' : ∀ b ∈ bytes x, g1 b < 256 ∧ g2 (g1 b) < 256 ∧ g2 (g1 b) / 16 ≤ 4 := fun b hq => ⟨(d b (hb b hq)).1, (d b (hb b hq)).2.1, (d b (hb b hq)).2.2.2.1⟩
  unfold mask at s1 s2 s3
  unfold bytes at s1 s2 s3 hb hb'
  simp only [List.map_cons, List.map_nil, val] at s1 s2 s3
  simp only [List.mem_cons, List.not_mem_nil, or_false, forall_eq_or_imp, forall_eq] at hb hb'
  obtain ⟨b0, b1, b2, b3, b4, b5, b6, b7⟩ := hb
  obtain ⟨c0, c1, c2, c3, c4, c5, c6, c7⟩ := hb'
  refine ⟨_, _, (Bit.memTo (x % 256) 8).length, (Bit.memTo (x / 256 % 256) 8).length, (Bit.memTo (x / 65536 % 256) 8).length, (Bit.memTo (x / 16777216 % 256) 8).length, (Bit.memTo (x / 4294967296 % 256) 8).length, (Bit.memTo (x / 1099511627776 % 256) 8).length, (Bit.memTo (x / 281474976710656 % 256) 8).length, (Bit.memTo (x / 72057594037927936) 8).length, s1, ?_, s2, ?_, ?_, ⟨l8 _, l8 _, l8 _, l8 _, l8 _, l8 _, l8 _, l8 _⟩, sb.symm⟩
  · omega
  · omega
  · rw [e _ b0, e _ b1, e _ b2, e _ b3, e _ b4, e _ b5, e _ b6, e _ b7] at s3
    refine s3.trans ?_
    omega
/-- the sums of neighbours -/
theorem fold {X h0 h1 h2 h3 h4 h5 h6 h7 : Nat} (e : X = h0 + h1 * 256 + h2 * 65536 + h3 * 16777216 + h4 * 4294967296 + h5 * 1099511627776 + h6 * 281474976710656 + h7 * 72057594037927936)
    (b : h0 ≤ 8 ∧ h1 ≤ 8 ∧ h2 ≤ 8 ∧ h3 ≤ 8 ∧ h4 ≤ 8 ∧ h5 ≤ 8 ∧ h6 ≤ 8 ∧ h7 ≤ 8) :
    ∃ x4 x5 x6 : Nat, X + X / 256 = x4 ∧ x4 + x4 / 65536 = x5 ∧ x5 + x5 / 4294967296 = x6 ∧ x4 < 2 ^ 62 ∧ x5 < 2 ^ 62 ∧ x6 < 2 ^ 62 ∧ x6 % 128 = h0 + h1 + h2 + h3 + h4 + h5 + h6 + h7 := by
  have e4 : X + X / 256 = (h0 + h1) + (h1 + h2) * 256 + (h2 + h3) * 65536 + (h3 + h4) * 16777216 + (h4 + h5) * 4294967296 + (h5 + h6) * 1099511627776 + (h6 + h7) * 281474976710656 + h7 * 72057594037927936 := by
    have : X / 256 = h1 + h2 * 256 + h3 * 65536 + h4 * 16777216 + h5 * 4294967296 + h6 * 1099511627776 + h7 * 281474976710656 := by omega
    omega
  obtain ⟨x4, hx4⟩ : ∃ x4, X + X / 256 = x4 := ⟨_, rfl⟩
  have e4' : x4 = (h0 + h1) + (h1 + h2) * 256 + (h2 + h3) * 65536 + (h3 + h4) * 16777216 + (h4 + h5) * 4294967296 + (h5 + h6) * 1099511627776 + (h6 + h7) * 281474976710656 + h7 * 72057594037927936 := by rw [← hx4, e4]
  have e5 : x4 + x4 / 65536 = (h0 + h1 + h2 + h3) + (h1 + h2 + h3 + h4) * 256 + (h2 + h3 + h4 + h5) * 65536 + (h3 + h4 + h5 + h6) * 16777216 + (h4 + h5 + h6 + h7) * 4294967296 + (h5 + h6 + h7) * 1099511627776 + (h6 + h7) * 281474976710656 + h7 * 72057594037927936 := by
    have : x4 / 65536 = (h2 + h3) + (h3 + h4) * 256 + (h4 + h5) * 65536 + (h5 + h6) * 16777216 + (h6 + h7) * 4294967296 + h7 * 1099511627776 := by
      clear e e4 hx4; omega
    clear e e4 hx4; omega
  obtain ⟨x5, hx5⟩ : ∃ x5, x4 + x4 / 65536 = x5 := ⟨_, rfl⟩
  have e5' := hx5.symm.trans e5
  have e6 : x5 + x5 / 4294967296 = (h0 + h1 + h2 + h3 + h4 + h5 + h6 + h7) + ((h1 + h2 + h3 + h4) + (h5 + h6 + h7)) * 256 + ((h2 + h3 + h4 + h5) + (h6 + h7)) * 65536 + ((h3 + h4 + h5 + h6) + h7) * 16777216 + (h4 + h5 + h6 + h7) * 4294967296 + (h5 + h6 + h7) * 1099511627776 + (h6 + h7) * 281474976710656 + h7 * 72057594037927936 := by
    have : x5 / 4294967296 = (h4 + h5 + h6 + h7) + (h5 + h6 + h7) * 256 + (h6 + h7) * 65536 + h7 * 16777216 := by
      clear e e4 hx4 e4' e5 hx5; omega
    clear e e4 hx4 e4' e5 hx5; omega
  refine ⟨x4, x5, _, hx4, hx5, rfl, ?_, ?_, ?_, ?_⟩
  · clear e e4 hx4 e5 hx5 e5' e6; omega
  · clear e e4 hx4 e4' e5 hx5 e6; omega
  · rw [e6]; clear e e4 hx4 e4' e5 hx5 e5' e6; omega
  · rw [e6]; clear e e4 hx4 e4' e5 hx5 e5' e6; omega
end Pop

theorem and127 (x : Nat) (h : x < 2 ^ 62) : bits .and .i64 (x : Int) 127 = ((x % 128 : Nat) : Int) := by
  show IntKind.i64.wrap ((BitVec.ofInt 64 (x : Int) &&& BitVec.ofInt 64 ((127 : Nat) : Int)).toNat : Int) = _
  rw [BitVec.toNat_and, ofInt_u64 127 (by omega), ofInt_u64 x (by omega), nat_mask7]
  simp [IntKind.wrap, IntKind.bits, IntKind.signed]
  omega
theorem wrap62 (x : Nat) (h : x < 2 ^ 62) : IntKind.i64.wrap (x : Int) = (x : Nat) := by
  simp [IntKind.wrap, IntKind.bits, IntKind.signed]; omega
end Go.Proofs.YtlmbfhbfejjpdaaGreatDoor
