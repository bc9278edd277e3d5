/- What the statement on digits wants: numbers are read from their digits, and what is read are its digits. -/
import Derived.Test.YtjlipkklljjdjaaDoorLexX
namespace Go.Proofs.YtjlipkklljjdjaaDoor
open Go.ChangeShapes Go.RowKit Go.Shelf

theorem head_dec (u : Nat) : ∃ c r, Lib.decDigits u = c :: r ∧ 48 ≤ c.toNat ∧ c.toNat ≤ 57 := by
  cases h : Lib.decDigits u with
  | nil => exact (Num.dec_ne u h).elim
  | cons c r => exact ⟨c, r, rfl, Num.dec_dg u c (by rw [h]; simp)⟩
theorem dec_48 (u : Nat) (h : (Lib.decDigits u).head? = some 48) : u = 0 := by
  rcases Nat.eq_zero_or_pos u with a | a
  · exact a
  · obtain ⟨c, r, e, hc⟩ := Num.dec_head u a
    rw [e] at h
    obtain rfl : c = 48 := by simpa using h
    exact (hc rfl).elim
theorem num_itoa (n : Int) (h0 : -9223372036854775808 ≤ n) (h1 : n ≤ 9223372036854775807) : NumIs (Lib.itoa n) n 0 := by
  unfold Lib.itoa
  by_cases h : n < 0
  · rw [if_pos h]
    have hd : dl (45 :: Lib.decDigits n.natAbs) = Lib.decDigits n.natAbs := by simp [dl]
    refine .inr (.inl ⟨⟨?_, ?_, ?_⟩, rfl, ?_, ?_, rfl⟩)
    · rw [hd]; exact Num.dec_ne _
    · rw [hd]; exact Num.dec_dg _
    · rw [hd]; intro e; have := dec_48 _ e; omega
    · rw [hd, Num.dec_val]; omega
    · rw [hd, Num.dec_val]; omega
  · rw [if_neg h]
    obtain ⟨c, r, e, c0, c1⟩ := head_dec n.toNat
    have hn : ¬ (Lib.decDigits n.toNat).head? = some 45 := by
      rw [e]
      intro q
      obtain rfl : c = 45 := by simpa using q
      revert c0
      decide
    have hd := dl_pos hn
    refine .inr (.inr (.inl ⟨⟨?_, ?_, ?_⟩, hn, ?_, ?_, rfl⟩))
    · rw [hd]; exact Num.dec_ne _
    · rw [hd]; exact Num.dec_dg _
    · rw [hd]; intro q; rw [dec_48 _ q, Num.dec_zero]
    · rw [hd, Num.dec_val]; omega
    · rw [hd, Num.dec_val]; omega
theorem ne_48 {l : List UInt8} (hne : l ≠ []) (h : ¬ l.head? = some 48) : ∃ c r, l = c :: r ∧ c.toNat ≠ 48 := by
  cases l with
  | nil => exact (hne rfl).elim
  | cons c r => exact ⟨c, r, rfl, fun e => h (by rw [UInt8.toNat_inj.1 (show c.toNat = (48 : UInt8).toNat by rw [e]; rfl)]; rfl)⟩
theorem val_pos {l : List UInt8} (hd : Num.Dg l) (h : ∃ c r, l = c :: r ∧ c.toNat ≠ 48) : 1 ≤ Num.val 0 l := by
  obtain ⟨c, r, rfl, hc⟩ := h
  have c0 := (hd c (by simp)).1
  have := Num.val_ge r (10 * 0 + (c.toNat - 48))
  rw [Num.val_cons]
  omega
theorem itoa_num {l : List UInt8} {v : Int} (h : NumIs l v 0) : Lib.itoa v = l := by
  rcases h with ⟨_, _, h⟩ | ⟨hd, hn, _, rfl, _⟩ | ⟨hd, hn, _, rfl, _⟩ | ⟨_, _, _, h⟩
  · omega
  · have h48 : ¬ (dl l).head? = some 48 := fun e => by have := hd.2.2 e; rw [this] at hn; simp at hn
    have hh := ne_48 hd.1 h48
    have hp := val_pos hd.2.1 hh
    unfold Lib.itoa
    rw [if_pos (by omega)]
    have e : (-(Num.val 0 (dl l) : Int)).natAbs = Num.val 0 (dl l) := by omega
    rw [e, Num.dec_of _ _ rfl hd.2.1 hh]
    exact (dl_neg hn).symm
  · unfold Lib.itoa
    rw [if_neg (by omega), Int.toNat_natCast]
    have e := dl_pos hn
    by_cases h48 : (dl l).head? = some 48
    · have := hd.2.2 h48
      subst this
      rw [e]
      have : Num.val 0 [48] = 0 := by rw [Num.val_cons, Num.val_nil]; rfl
      rw [this, Num.dec_zero]
    · rw [Num.dec_of _ _ rfl hd.2.1 (ne_48 hd.1 h48)]
      exact e
  · omega
theorem NumIs.range {l : List UInt8} {v e : Int} (h : NumIs l v e) : -9223372036854775808 ≤ v ∧ v ≤ 9223372036854775807 := by
  rcases h with ⟨_, rfl, _⟩ | ⟨_, _, h, rfl, _⟩ | ⟨_, _, h, rfl, _⟩ | ⟨_, _, rfl, _⟩ <;> omega
theorem NumIs.long {l : List UInt8} {v : Int} (h : NumIs l v 7) : v = 0 ∧ 18 < l.length := by
  rcases h with ⟨_, _, h⟩ | ⟨_, _, _, _, h⟩ | ⟨_, _, _, _, h⟩ | ⟨hd, hv, rfl, _⟩
  · omega
  · omega
  · omega
  · refine ⟨rfl, ?_⟩
    have hb : 9223372036854775808 ≤ Num.val 0 (dl l) := by rcases hv with ⟨_, h⟩ | ⟨_, h⟩ <;> omega
    have hl : (dl l).length ≤ l.length := by unfold dl; split <;> simp
    have hi := Num.val_hi (dl l) 0 hd.2.1
    rcases Nat.lt_or_ge 18 l.length with a | a
    · exact a
    · exfalso
      have h2 : (10 : Nat) ^ (dl l).length ≤ 10 ^ 18 := Nat.pow_le_pow_right (by decide) (by omega)
      have h3 : (10 : Nat) ^ 18 = 1000000000000000000 := by decide
      omega
theorem NumIs.three {l : List UInt8} {v e : Int} (h : NumIs l v e) : e = 0 ∨ (e = 10 ∧ v = 0) ∨ (e = 7 ∧ v = 0) := by
  rcases h with ⟨_, a, b⟩ | ⟨_, _, _, _, b⟩ | ⟨_, _, _, _, b⟩ | ⟨_, _, a, b⟩
  · exact .inr (.inl ⟨b, a⟩)
  · exact .inl b
  · exact .inl b
  · exact .inr (.inr ⟨b, a⟩)
theorem not_dg {l : List UInt8} {c : UInt8} (hm : c ∈ l) (hc : c.toNat < 48 ∨ 57 < c.toNat) : ¬ Num.Dg l := fun h => by have := h c hm; omega
/-- a byte in it that is no digit, nor a minus at its beginning -/
theorem not_dec {l : List UInt8} {c : UInt8} (hm : c ∈ l.drop 1 ∨ (l.head? = some c ∧ c ≠ 45)) (hc : c.toNat < 48 ∨ 57 < c.toNat) : NumIs l 0 10 := by
  refine .inl ⟨fun h => not_dg ?_ hc h.2.1, rfl, rfl⟩
  unfold dl
  rcases hm with hm | ⟨hm, hne⟩
  · split
    · exact hm
    · exact List.mem_of_mem_drop hm
  · rw [if_neg (by rw [hm]; exact fun e => hne (Option.some.inj e))]
    cases l with
    | nil => simp at hm
    | cons x r => obtain rfl : x = c := by simpa using hm
                  simp
theorem zero_dec (t : List UInt8) (h : t ≠ []) : NumIs (48 :: t) 0 10 := by
  refine .inl ⟨fun q => ?_, rfl, rfl⟩
  have e : dl (48 :: t) = 48 :: t := by simp [dl]
  have := q.2.2 (by rw [e]; rfl)
  exact h (by simpa using this)
theorem dl_itoa (n : Int) : Num.Dg (dl (Lib.itoa n)) := by
  unfold Lib.itoa
  by_cases h : n < 0
  · rw [if_pos h]
    have hd : dl (45 :: Lib.decDigits n.natAbs) = Lib.decDigits n.natAbs := by simp [dl]
    rw [hd]; exact Num.dec_dg _
  · rw [if_neg h]
    obtain ⟨c, r, e, c0, c1⟩ := head_dec n.toNat
    have hn : ¬ (Lib.decDigits n.toNat).head? = some 45 := by
      rw [e]
      intro q
      obtain rfl : c = 45 := by simpa using q
      revert c0
      decide
    rw [dl_pos hn]
    exact Num.dec_dg _
/-- a one and nineteen zeros before digits: too great -/
theorem over_dec (t : List UInt8) (h : Num.Dg t) : NumIs (49 :: (List.replicate 19 48 ++ t)) 0 7 := by
  have hn : ¬ (49 :: (List.replicate 19 (48 : UInt8) ++ t)).head? = some 45 := by simp
  have hd := dl_pos hn
  refine .inr (.inr (.inr ⟨⟨?_, ?_, ?_⟩, .inr ⟨hn, ?_⟩, rfl, rfl⟩))
  · rw [hd]; simp
  · rw [hd]
    intro c hc
    rcases List.mem_cons.1 hc with rfl | hc
    · decide
    · rcases List.mem_append.1 hc with hc | hc
      · obtain rfl := List.eq_of_mem_replicate hc
        decide
      · exact h c hc
  · rw [hd]; intro e; simp at e
  · rw [hd, Num.val_cons]
    have := Num.val_lo (List.replicate 19 48 ++ t) (10 * 0 + ((49 : UInt8).toNat - 48))
    have e1 : 10 * 0 + ((49 : UInt8).toNat - 48) = 1 := by decide
    rw [e1] at this ⊢
    have h2 : (10 : Nat) ^ 19 ≤ 10 ^ (List.replicate 19 (48 : UInt8) ++ t).length := Nat.pow_le_pow_right (by decide) (by simp)
    have h3 : (10 : Nat) ^ 19 = 10000000000000000000 := by decide
    omega
end Go.Proofs.YtjlipkklljjdjaaDoor
