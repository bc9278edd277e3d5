/- Order, as numbers: it is one order of all civil times. -/
import Derived.Test.YtjffnjoeeclckaaDoorCivO
namespace Go.Proofs.YtjffnjoeeclckaaDoor

theorem firstI_cons (a : Int) (l : List Int) : firstI (a :: l) = if a = 0 then firstI l else a := rfl
/-- the order of two lists of the same length -/
def lexI : List Int → List Int → Int
  | a :: l, b :: k => if cmpI a b = 0 then lexI l k else cmpI a b
  | _, _ => 0
theorem ordI_lex (y m d h i s y' m' d' h' i' s' : Int) : ordI y m d h i s y' m' d' h' i' s' = lexI [y, m, d, h, i, s] [y', m', d', h', i', s'] := rfl
theorem lex_bd : ∀ l k : List Int, -1 ≤ lexI l k ∧ lexI l k ≤ 1
  | [], _ => by simp [lexI]
  | _ :: _, [] => by simp [lexI]
  | a :: l, b :: k => by
    have h := lex_bd l k
    have c := cmpI_bd a b
    unfold lexI; split <;> omega
theorem cmpI_anti (a b : Int) : cmpI b a = -cmpI a b := by unfold cmpI; repeat' split
                                                           all_goals omega
theorem lex_anti : ∀ l k : List Int, lexI k l = -lexI l k
  | [], k => by cases k <;> simp [lexI]
  | _ :: _, [] => by simp [lexI]
  | a :: l, b :: k => by
    have h := lex_anti l k
    have c := cmpI_anti a b
    unfold lexI
    by_cases e : cmpI a b = 0
    · rw [if_pos e, if_pos (by omega), h]
    · rw [if_neg e, if_neg (by omega), c]
theorem lex_refl : ∀ l : List Int, lexI l l = 0
  | [] => rfl
  | a :: l => by unfold lexI; rw [if_pos (cmpI_eq a)]; exact lex_refl l
theorem lex_zero : ∀ l k : List Int, l.length = k.length → lexI l k = 0 → l = k
  | [], [], _, _ => rfl
  | a :: l, b :: k, h, e => by
    unfold lexI at e
    by_cases c : cmpI a b = 0
    · rw [if_pos c] at e
      rw [cmpI_zero.1 c, lex_zero l k (by simpa using h) e]
    · rw [if_neg c] at e; exact absurd e c
theorem cmpI_trans (a b c : Int) : (cmpI a b ≤ 0 → cmpI b c ≤ 0 → cmpI a c ≤ 0) ∧ (cmpI a b < 0 → cmpI b c ≤ 0 → cmpI a c = -1) ∧ (cmpI a b ≤ 0 → cmpI b c < 0 → cmpI a c = -1) ∧ (cmpI a b = 0 → cmpI b c = 0 → cmpI a c = 0) := by
  unfold cmpI
  repeat' split
  all_goals omega
theorem lex_trans : ∀ l k j : List Int, l.length = k.length → k.length = j.length →
    (lexI l k ≤ 0 → lexI k j ≤ 0 → lexI l j ≤ 0) ∧ (lexI l k < 0 → lexI k j ≤ 0 → lexI l j = -1) ∧ (lexI l k ≤ 0 → lexI k j < 0 → lexI l j = -1)
  | [], [], [], _, _ => by simp [lexI]
  | a :: l, b :: k, c :: j, h1, h2 => by
    have h := lex_trans l k j (by simpa using h1) (by simpa using h2)
    have t := cmpI_trans a b c
    have b1 := cmpI_bd a b
    have b2 := cmpI_bd b c
    have b3 := cmpI_bd a c
    have e1 : cmpI a b = 0 → a = b := cmpI_zero.1
    have e2 : cmpI b c = 0 → b = c := cmpI_zero.1
    unfold lexI
    by_cases c1 : cmpI a b = 0
    · obtain rfl := e1 c1
      simp only [if_pos c1]
      by_cases c2 : cmpI a c = 0
      · simp only [if_pos c2]; exact h
      · simp only [if_neg c2]; omega
    · simp only [if_neg c1]
      by_cases c2 : cmpI b c = 0
      · obtain rfl := e2 c2
        simp only [if_pos c2, if_neg c1]; omega
      · simp only [if_neg c2]
        by_cases c3 : cmpI a c = 0
        · simp only [if_pos c3]; omega
        · simp only [if_neg c3]; omega
end Go.Proofs.YtjffnjoeeclckaaDoor
