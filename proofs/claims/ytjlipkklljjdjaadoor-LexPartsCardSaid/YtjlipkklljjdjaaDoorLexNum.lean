/- Plain facts of decimal numbers as bytes: what digits say, what the library's reading of them gives, and the digits of a number. No program stands here. -/
import Derived.Lib.ParseIntB
import Derived.Lib.ItoaNum
import Derived.Lib.Strings
namespace Go.Proofs.YtjlipkklljjdjaaDoor.Num
/-- what the digits say, behind what those before them said -/
def val (acc : Nat) (l : List UInt8) : Nat := l.foldl (fun n c => 10 * n + (c.toNat - 48)) acc
theorem val_nil (acc : Nat) : val acc [] = acc := by unfold val; rw [List.foldl_nil]
theorem val_cons (acc : Nat) (c : UInt8) (r : List UInt8) : val acc (c :: r) = val (10 * acc + (c.toNat - 48)) r := by unfold val; rw [List.foldl_cons]
def Dg (l : List UInt8) : Prop := ∀ c ∈ l, 48 ≤ c.toNat ∧ c.toNat ≤ 57
theorem val_ge (l : List UInt8) : ∀ acc, acc ≤ val acc l := by
  induction l with
  | nil => intro acc; rw [val_nil]; exact Nat.le_refl _
  | cons c r ih => intro acc; have := ih (10 * acc + (c.toNat - 48)); rw [val_cons]; omega
theorem val_append (a b : List UInt8) : ∀ acc, val acc (a ++ b) = val (val acc a) b := by
  induction a with
  | nil => intro acc; rw [val_nil, List.nil_append]
  | cons c r ih => intro acc; rw [List.cons_append, val_cons, val_cons, ih]
theorem val_take (l : List UInt8) (k : Nat) (h : k < l.length) (acc : Nat) : val acc (l.take (k + 1)) = 10 * val acc (l.take k) + (l[k].toNat - 48) := by
  rw [List.take_succ_eq_append_getElem h, val_append, val_cons, val_nil]
theorem val_take_le (l : List UInt8) (k acc : Nat) : val acc (l.take k) ≤ val acc l := by
  have := val_append (l.take k) (l.drop k) acc
  rw [List.take_append_drop] at this
  rw [this]
  exact val_ge _ _
theorem parseU (l : List UInt8) : ∀ acc, Dg l → acc ≤ 18446744073709551615 → Go.Lib.parseUintM 18446744073709551615 acc l = if val acc l ≤ 18446744073709551615 then .ok (val acc l) else .range := by
  induction l with
  | nil => intro acc _ h; simp [Go.Lib.parseUintM, val_nil, h]
  | cons c r ih =>
    intro acc hd h
    obtain ⟨h0, h1⟩ := hd c (by simp)
    have hv := val_ge r (10 * acc + (c.toNat - 48))
    have e : acc * 10 + (c.toNat - 48) = 10 * acc + (c.toNat - 48) := by omega
    rw [Go.Lib.parseUintM, if_pos ⟨h0, h1⟩]
    rw [val_cons]
    by_cases a : 1844674407370955162 ≤ acc
    · rw [if_pos a, if_neg (by omega)]
    · rw [if_neg a, e]
      by_cases b : 18446744073709551615 < 10 * acc + (c.toNat - 48)
      · rw [if_pos b, if_neg (by omega)]
      · rw [if_neg b, ih _ (fun d hd' => hd d (by simp [hd'])) (by omega)]
theorem parse_pos (l : List UInt8) (hd : Dg l) (hn : l ≠ []) : Go.Lib.parseIntB 64 l = if val 0 l < 9223372036854775808 then .ok (val 0 l : Nat) else .range := by
  cases l with
  | nil => exact (hn rfl).elim
  | cons c r =>
    obtain ⟨h0, h1⟩ := hd c (by simp)
    have c1 : ¬ (c.toNat = 43 ∨ c.toNat = 45) := by omega
    have c2 : ¬ c.toNat = 45 := by omega
    have P := parseU (c :: r) 0 hd (by omega)
    unfold Go.Lib.parseIntB Go.Lib.parseUintB
    simp only []
    rw [if_neg c1, if_neg (by simp), show (2 ^ 64 - 1 : Nat) = 18446744073709551615 from rfl, P]
    by_cases a : val 0 (c :: r) ≤ 18446744073709551615
    · rw [if_pos a]
      by_cases b : val 0 (c :: r) < 9223372036854775808
      · rw [if_pos b]
        have b' : ¬ ((2 : Nat) ^ (64 - 1) ≤ val 0 (c :: r)) := by have : (2 : Nat) ^ (64 - 1) = 9223372036854775808 := rfl; omega
        simp [b', c2]
      · rw [if_neg b]
        have b' : (2 : Nat) ^ (64 - 1) ≤ val 0 (c :: r) := by have : (2 : Nat) ^ (64 - 1) = 9223372036854775808 := rfl; omega
        simp [b', c2]
    · rw [if_neg a, if_neg (by omega)]
theorem parse_neg (l : List UInt8) (hd : Dg l) (hn : l ≠ []) : Go.Lib.parseIntB 64 (45 :: l) = if val 0 l ≤ 9223372036854775808 then .ok (-(val 0 l : Nat)) else .range := by
  have P := parseU l 0 hd (by omega)
  have e45 : (45 : UInt8).toNat = 45 := rfl
  unfold Go.Lib.parseIntB Go.Lib.parseUintB
  simp only [e45, or_true, if_true]
  rw [if_neg hn, show (2 ^ 64 - 1 : Nat) = 18446744073709551615 from rfl, P]
  by_cases a : val 0 l ≤ 18446744073709551615
  · rw [if_pos a]
    by_cases b : val 0 l ≤ 9223372036854775808
    · rw [if_pos b]
      have b' : ¬ ((2 : Nat) ^ (64 - 1) < val 0 l) := by have : (2 : Nat) ^ (64 - 1) = 9223372036854775808 := rfl; omega
      simp [b']
    · rw [if_neg b]
      have b' : (2 : Nat) ^ (64 - 1) < val 0 l := by have : (2 : Nat) ^ (64 - 1) = 9223372036854775808 := rfl; omega
      simp [b']
  · rw [if_neg a, if_neg (by omega)]
theorem val_lo (l : List UInt8) : ∀ acc, acc * 10 ^ l.length ≤ val acc l := by
  induction l with
  | nil => intro acc; rw [val_nil]; simp
  | cons c r ih =>
    intro acc
    rw [val_cons, List.length_cons, Nat.pow_succ]
    refine Nat.le_trans ?_ (ih _)
    rw [Nat.mul_comm (10 ^ r.length) 10, ← Nat.mul_assoc]
    exact Nat.mul_le_mul_right _ (by omega)
theorem val_hi (l : List UInt8) : ∀ acc, Dg l → val acc l + 1 ≤ (acc + 1) * 10 ^ l.length := by
  induction l with
  | nil => intro acc _; rw [val_nil]; simp
  | cons c r ih =>
    intro acc hd
    obtain ⟨h0, h1⟩ := hd c (by simp)
    rw [val_cons, List.length_cons, Nat.pow_succ]
    refine Nat.le_trans (ih _ (fun d h => hd d (by simp [h]))) ?_
    rw [Nat.mul_comm (10 ^ r.length) 10, ← Nat.mul_assoc]
    exact Nat.mul_le_mul_right _ (by omega)
theorem of_nat {d : Nat} (h : d < 10) : (UInt8.ofNat (48 + d)).toNat = 48 + d := by
  rw [UInt8.toNat_ofNat']
  omega
theorem dec_dg (u : Nat) : Dg (Go.Lib.decDigits u) := by
  induction u using Nat.strongRecOn with
  | ind u ih =>
    rw [Go.Lib.decDigits]
    split
    · intro c hc
      obtain rfl : c = UInt8.ofNat (48 + u) := by simpa using hc
      rw [of_nat (by omega)]; omega
    · intro c hc
      rcases List.mem_append.1 hc with h | h
      · exact ih (u / 10) (by omega) c h
      · obtain rfl : c = UInt8.ofNat (48 + u % 10) := by simpa using h
        rw [of_nat (by omega)]; omega
theorem dec_val (u : Nat) : val 0 (Go.Lib.decDigits u) = u := by
  induction u using Nat.strongRecOn with
  | ind u ih =>
    rw [Go.Lib.decDigits]
    split
    · rw [val_cons, val_nil, of_nat (by omega)]; omega
    · rw [val_append, ih (u / 10) (by omega), val_cons, val_nil, of_nat (by omega)]; omega
theorem dec_ne (u : Nat) : Go.Lib.decDigits u ≠ [] := by
  rw [Go.Lib.decDigits]
  split <;> simp
theorem dec_zero : Go.Lib.decDigits 0 = [48] := by rw [Go.Lib.decDigits]; rfl
theorem dec_head (u : Nat) (h : 1 ≤ u) : ∃ c r, Go.Lib.decDigits u = c :: r ∧ c.toNat ≠ 48 := by
  induction u using Nat.strongRecOn with
  | ind u ih =>
    rw [Go.Lib.decDigits]
    split
    · exact ⟨_, _, rfl, by rw [of_nat (by omega)]; omega⟩
    · obtain ⟨c, r, e, hc⟩ := ih (u / 10) (by omega) (by omega)
      exact ⟨c, r ++ [UInt8.ofNat (48 + u % 10)], by rw [e]; rfl, hc⟩
/-- digits without a zero ahead are the digits of what they say -/
theorem dec_of (l : List UInt8) (n : Nat) : l.length = n → Dg l → (∃ c r, l = c :: r ∧ c.toNat ≠ 48) → Go.Lib.decDigits (val 0 l) = l := by
  induction n generalizing l with
  | zero => rintro hl _ ⟨c, r, rfl, _⟩; simp at hl
  | succ n ih =>
    rintro hl hd ⟨c, r, rfl, hc⟩
    rcases List.eq_nil_or_concat r with rfl | ⟨r', d, rfl⟩
    · obtain ⟨h0, h1⟩ := hd c (by simp)
      rw [val_cons, val_nil, Go.Lib.decDigits_one (by omega)]
      have e : 48 + (10 * 0 + (c.toNat - 48)) = c.toNat := by omega
      rw [e]
      simp
    · rw [List.concat_eq_append] at hl hd ⊢
      have hd' : Dg (c :: r') := fun x hx => hd x (by
        rcases List.mem_cons.1 hx with rfl | hx
        · simp
        · simp [hx])
      have ih' := ih (c :: r') (by simp at hl ⊢; omega) hd' ⟨c, r', rfl, hc⟩
      obtain ⟨h0, h1⟩ := hd d (by simp)
      obtain ⟨c0, c1⟩ := hd c (by simp)
      have hv : val 0 (c :: (r' ++ [d])) = 10 * val 0 (c :: r') + (d.toNat - 48) := by
        rw [← List.cons_append, val_append, val_cons _ d, val_nil]
      have hp : 1 ≤ val 0 (c :: r') := by
        have := val_ge r' (10 * 0 + (c.toNat - 48))
        rw [val_cons]
        omega
      rw [hv, Go.Lib.decDigits, dif_neg (by omega)]
      have e1 : (10 * val 0 (c :: r') + (d.toNat - 48)) / 10 = val 0 (c :: r') := by omega
      have e2 : 48 + (10 * val 0 (c :: r') + (d.toNat - 48)) % 10 = d.toNat := by omega
      rw [e1, e2, ih']
      simp
theorem dec_len (u : Nat) (h : u ≤ 9223372036854775808) : (Go.Lib.decDigits u).length ≤ 19 := by
  rcases Nat.eq_zero_or_pos u with rfl | hp
  · rw [dec_zero]; simp
  · obtain ⟨c, r, e, hc⟩ := dec_head u hp
    have hv := dec_val u
    have hd := (dec_dg u) c (by rw [e]; simp)
    rw [e, val_cons] at hv
    have h1 := val_lo r (10 * 0 + (c.toNat - 48))
    rw [hv] at h1
    rw [e, List.length_cons]
    rcases Nat.lt_or_ge r.length 19 with a | a
    · omega
    · have h2 : (10 : Nat) ^ 19 ≤ 10 ^ r.length := Nat.pow_le_pow_right (by decide) a
      have h3 : 1 * 10 ^ r.length ≤ (10 * 0 + (c.toNat - 48)) * 10 ^ r.length := Nat.mul_le_mul_right _ (by omega)
      have h4 : (10 : Nat) ^ 19 = 10000000000000000000 := by decide
      omega
/-- the digits that the loop has taken off, from behind -/
def Off (u k : Nat) (L : List UInt8) : Prop := (L = [] ∧ k = u) ∨ (L ≠ [] ∧ Go.Lib.decDigits u = (if k = 0 then [] else Go.Lib.decDigits k) ++ L)
theorem off_step {u k : Nat} {L : List UInt8} (h : Off u k L) (hk : L = [] ∨ k ≠ 0) : Off u (k / 10) (UInt8.ofNat (48 + k % 10) :: L) := by
  refine .inr ⟨by simp, ?_⟩
  have key : Go.Lib.decDigits k = (if k / 10 = 0 then [] else Go.Lib.decDigits (k / 10)) ++ [UInt8.ofNat (48 + k % 10)] := by
    rw [Go.Lib.decDigits]
    by_cases a : k < 10
    · rw [dif_pos a, if_pos (by omega)]
      have : k % 10 = k := by omega
      rw [this]; rfl
    · rw [dif_neg a, if_neg (by omega)]
  rcases h with ⟨rfl, rfl⟩ | ⟨_, h⟩
  · exact key
  · rcases hk with rfl | hk
    · rename_i q; exact (q rfl).elim
    · rw [if_neg hk] at h
      rw [h, key]
      simp
theorem off_len {u k : Nat} {L : List UInt8} (h : Off u k L) (hu : u ≤ 9223372036854775808) : L.length ≤ 19 := by
  rcases h with ⟨rfl, _⟩ | ⟨_, h⟩
  · simp
  · have := congrArg List.length h
    rw [List.length_append] at this
    have := dec_len u hu
    omega
theorem off_end {u : Nat} {L : List UInt8} (h : Off u 0 L) (hL : L ≠ []) : L = Go.Lib.decDigits u := by
  rcases h with ⟨q, _⟩ | ⟨_, h⟩
  · exact (hL q).elim
  · rw [h]; rfl
end Go.Proofs.YtjlipkklljjdjaaDoor.Num
