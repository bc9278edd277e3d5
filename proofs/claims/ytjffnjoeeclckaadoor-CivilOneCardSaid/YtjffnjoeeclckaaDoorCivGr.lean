/- The smaller civil time comes before in Order, and has the smaller text. -/
import Derived.Test.YtjffnjoeeclckaaDoorCivBk
import Derived.Test.YtjffnjoeeclckaaDoorCivOrd
namespace Go.Proofs.YtjffnjoeeclckaaDoor

theorem ord_before {y m d h i s y' m' d' h' i' s' : Int} (b : Civ.Before y m d h i s y' m' d' h' i' s') : ordI y m d h i s y' m' d' h' i' s' = -1 := by
  unfold Civ.Before at b
  unfold ordI
  rcases b with b | ⟨rfl, b | ⟨rfl, b | ⟨rfl, b | ⟨rfl, b | ⟨rfl, b⟩⟩⟩⟩⟩ <;> simp [firstI, cmpI_lt, cmpI_eq, b]
theorem ord_behind {y m d h i s y' m' d' h' i' s' : Int} (b : Civ.Before y' m' d' h' i' s' y m d h i s) : ordI y m d h i s y' m' d' h' i' s' = 1 := by
  have := lex_anti [y', m', d', h', i', s'] [y, m, d, h, i, s]
  rw [← ordI_lex, ← ordI_lex, ord_before b] at this
  simpa using this

/-- the order of lists of numbers -/
def NL : List Int → List Int → Prop
  | a :: l, b :: k => a < b ∨ a = b ∧ NL l k
  | _, _ => False
theorem NL_same (a : Int) (l k : List Int) (h : NL l k) : NL (a :: l) (a :: k) := .inr ⟨rfl, h⟩
theorem NL_two {n n' : Int} (h0 : 0 ≤ n) (h1 : n' ≤ 99) (h : n < n') (l k : List Int) : NL ((48 + n / 10 % 10) :: (48 + n % 10) :: l) ((48 + n' / 10 % 10) :: (48 + n' % 10) :: k) := by
  have : 48 + n / 10 % 10 < 48 + n' / 10 % 10 ∨ 48 + n / 10 % 10 = 48 + n' / 10 % 10 ∧ 48 + n % 10 < 48 + n' % 10 := by omega
  rcases this with h | ⟨h, h2⟩
  · exact .inl h
  · exact .inr ⟨h, .inl h2⟩
theorem NL_four {n n' : Int} (h0 : 0 ≤ n) (h1 : n' ≤ 9999) (h : n < n') (l k : List Int) :
    NL ((48 + n / 10 / 10 / 10 % 10) :: (48 + n / 10 / 10 % 10) :: (48 + n / 10 % 10) :: (48 + n % 10) :: l) ((48 + n' / 10 / 10 / 10 % 10) :: (48 + n' / 10 / 10 % 10) :: (48 + n' / 10 % 10) :: (48 + n' % 10) :: k) := by
  have a1 : n = 10 * (n / 10) + n % 10 := by omega
  have a2 : n / 10 = 10 * (n / 10 / 10) + n / 10 % 10 := by omega
  have a3 : n / 10 / 10 = 10 * (n / 10 / 10 / 10) + n / 10 / 10 % 10 := by omega
  have b1 : n' = 10 * (n' / 10) + n' % 10 := by omega
  have b2 : n' / 10 = 10 * (n' / 10 / 10) + n' / 10 % 10 := by omega
  have b3 : n' / 10 / 10 = 10 * (n' / 10 / 10 / 10) + n' / 10 / 10 % 10 := by omega
  have a4 : n / 10 / 10 / 10 % 10 = n / 10 / 10 / 10 := by omega
  have b4 : n' / 10 / 10 / 10 % 10 = n' / 10 / 10 / 10 := by omega
  have r1 : 0 ≤ n % 10 ∧ n % 10 < 10 := by omega
  have r2 : 0 ≤ n / 10 % 10 ∧ n / 10 % 10 < 10 := by omega
  have r3 : 0 ≤ n / 10 / 10 % 10 ∧ n / 10 / 10 % 10 < 10 := by omega
  have s1 : 0 ≤ n' % 10 ∧ n' % 10 < 10 := by omega
  have s2 : 0 ≤ n' / 10 % 10 ∧ n' / 10 % 10 < 10 := by omega
  have s3 : 0 ≤ n' / 10 / 10 % 10 ∧ n' / 10 / 10 % 10 < 10 := by omega
  rw [a4, b4]
  generalize n / 10 / 10 / 10 = p3 at *
  generalize n' / 10 / 10 / 10 = q3 at *
  generalize n / 10 / 10 % 10 = p2 at *
  generalize n' / 10 / 10 % 10 = q2 at *
  generalize n / 10 % 10 = p1 at *
  generalize n' / 10 % 10 = q1 at *
  generalize n % 10 = p0 at *
  generalize n' % 10 = q0 at *
  have : p3 < q3 ∨ p3 = q3 ∧ (p2 < q2 ∨ p2 = q2 ∧ (p1 < q1 ∨ p1 = q1 ∧ p0 < q0)) := by omega
  rcases this with h | ⟨rfl, h | ⟨rfl, h | ⟨rfl, h⟩⟩⟩
  · exact .inl (by omega)
  · exact .inr ⟨rfl, .inl (by omega)⟩
  · exact .inr ⟨rfl, .inr ⟨rfl, .inl (by omega)⟩⟩
  · exact .inr ⟨rfl, .inr ⟨rfl, .inr ⟨rfl, .inl (by omega)⟩⟩⟩
theorem txt_less {y m d h i s y' m' d' h' i' s' : Int} (v : Civ.CVld y m d h i s) (v' : Civ.CVld y' m' d' h' i' s') (b : Civ.Before y m d h i s y' m' d' h' i' s') : NL (txt y m d h i s) (txt y' m' d' h' i' s') := by
  obtain ⟨⟨y0, y1, m0, m1, d0, d1⟩, h0, h1, i0, i1, s0, s1⟩ := v
  obtain ⟨⟨y0', y1', m0', m1', d0', d1'⟩, h0', h1', i0', i1', s0', s1'⟩ := v'
  have d2 := (Civ.dim_bd y m).2
  have d2' := (Civ.dim_bd y' m').2
  unfold Civ.Before at b
  unfold txt
  rcases b with b | ⟨rfl, b | ⟨rfl, b | ⟨rfl, b | ⟨rfl, b | ⟨rfl, b⟩⟩⟩⟩⟩
  · exact NL_four (by omega) (by omega) b _ _
  · iterate 5 refine NL_same _ _ _ ?_
    exact NL_two (by omega) (by omega) b _ _
  · iterate 8 refine NL_same _ _ _ ?_
    exact NL_two (by omega) (by omega) b _ _
  · iterate 11 refine NL_same _ _ _ ?_
    exact NL_two (by omega) (by omega) b _ _
  · iterate 14 refine NL_same _ _ _ ?_
    exact NL_two (by omega) (by omega) b _ _
  · iterate 17 refine NL_same _ _ _ ?_
    exact NL_two (by omega) (by omega) b _ _
theorem less_of_NL : ∀ l k : List Int, (∀ a ∈ l, 0 ≤ a ∧ a < 256) → (∀ a ∈ k, 0 ≤ a ∧ a < 256) → NL l k → Op.bytesLess (l.map fun n => UInt8.ofNat n.toNat) (k.map fun n => UInt8.ofNat n.toNat) = true
  | [], _, _, _, h => by simp [NL] at h
  | _ :: _, [], _, _, h => by simp [NL] at h
  | a :: l, b :: k, ha, hb, h => by
    have a1 := byte_of (ha a (by simp)).1 (ha a (by simp)).2
    have b1 := byte_of (hb b (by simp)).1 (hb b (by simp)).2
    simp only [List.map_cons, Op.bytesLess, Bool.or_eq_true, Bool.and_eq_true, decide_eq_true_eq, beq_iff_eq]
    rcases h with h | ⟨rfl, h⟩
    · left; rw [UInt8.lt_iff_toNat_lt]; omega
    · right; exact ⟨rfl, less_of_NL l k (fun c hc => ha c (by simp [hc])) (fun c hc => hb c (by simp [hc])) h⟩
theorem txt_bd {y m d h i s : Int} : ∀ a ∈ txt y m d h i s, 0 ≤ a ∧ a < 256 := by
  intro a ha
  unfold txt at ha
  simp only [List.mem_cons, List.mem_nil_iff, or_false] at ha
  omega
theorem text_less {y m d h i s y' m' d' h' i' s' : Int} (v : Civ.CVld y m d h i s) (v' : Civ.CVld y' m' d' h' i' s') (b : Civ.Before y m d h i s y' m' d' h' i' s') :
    Op.bytesLess (strOfNums (txt y m d h i s)).toList (strOfNums (txt y' m' d' h' i' s')).toList = true := by
  rw [ByteArray.toList_eq, ByteArray.toList_eq]
  exact less_of_NL _ _ txt_bd txt_bd (txt_less v v' b)
theorem less_asym : ∀ l k : List UInt8, Op.bytesLess l k = true → Op.bytesLess k l = false ∧ (k == l) = false
  | _, [], h => by cases ‹List UInt8› <;> simp [Op.bytesLess] at h
  | [], b :: k, _ => by simp [Op.bytesLess]
  | a :: l, b :: k, h => by
    simp only [Op.bytesLess, Bool.or_eq_true, Bool.and_eq_true, decide_eq_true_eq, beq_iff_eq] at h
    rcases h with h | ⟨rfl, h⟩
    · have h1 : ¬ b < a := by rw [UInt8.lt_iff_toNat_lt] at *; omega
      have h2 : b ≠ a := by intro e; subst e; rw [UInt8.lt_iff_toNat_lt] at h; omega
      simp [Op.bytesLess, h1, h2]
    · have := less_asym l k h
      have h1 : ¬ a < a := by rw [UInt8.lt_iff_toNat_lt]; omega
      simp [Op.bytesLess, h1, this.1]
      simpa using this.2
end Go.Proofs.YtjffnjoeeclckaaDoor
