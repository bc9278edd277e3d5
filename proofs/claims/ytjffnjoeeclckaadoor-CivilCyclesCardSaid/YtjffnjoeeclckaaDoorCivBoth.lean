/- Package civil and the document's: each call of both returns the same numbers, texts and errors, for all arguments. -/
import Derived.Test.YtjffnjoeeclckaaDoorCivW
import Derived.Test.YtjffnjoeeclckaaDoorCivO
import Derived.Test.YtjffnjoeeclckaaDoorCivParseR
namespace Go.Proofs.YtjffnjoeeclckaaDoor
open Go.ChangeShapes Go.RowKit

theorem length_both (y m : Int) : ∃ a r : Int,
    (∀ w, Lay w → Calls Tryd.prog 15 #[.int .i64 y, .int .i64 m] w fun e w' => e = .returned (.tuple #[.int .i64 a, .int .i64 r]) ∧ w = w') ∧
    (∀ w, Calls Tryd.prog 16 #[.int .i64 y, .int .i64 m] w fun e w' => e = .returned (.tuple #[.int .i64 a, .int .i64 r]) ∧ Below w.heap.size w w') := by
  by_cases h : 1970 ≤ y ∧ y ≤ 9999 ∧ 1 ≤ m ∧ m ≤ 12
  · exact ⟨_, _, fun w L => length_yes y m w L h.1 h.2.1 h.2.2.1 h.2.2.2, fun w => lengthR_yes y m w h.1 h.2.1 h.2.2.1 h.2.2.2⟩
  · exact ⟨_, _, fun w _ => length_no y m w h, fun w => (lengthR_no y m w h).mono fun _ _ ⟨h1, h2⟩ => ⟨h1, by subst h2; exact Below.refl _ _⟩⟩
theorem days_both (y m d : Int) : ∃ a r : Int,
    (∀ w, Lay w → Calls Tryd.prog 17 #[.int .i64 y, .int .i64 m, .int .i64 d] w fun e w' => e = .returned (.tuple #[.int .i64 a, .int .i64 r]) ∧ w = w') ∧
    (∀ w, Calls Tryd.prog 18 #[.int .i64 y, .int .i64 m, .int .i64 d] w fun e w' => e = .returned (.tuple #[.int .i64 a, .int .i64 r]) ∧ Below w.heap.size w w') := by
  by_cases v : Civ.Vld y m d
  · exact ⟨_, _, fun w L => days_yes y m d _ w L v rfl, fun w => daysR_yes y m d _ w v rfl⟩
  · exact ⟨_, _, fun w L => days_no y m d w L v, fun w => daysR_no y m d w v⟩
theorem date_both (n : Int) : ∃ a b c r : Int,
    (∀ w, Lay w → Calls Tryd.prog 22 #[.int .i64 n] w fun e w' => e = .returned (.tuple #[.int .i64 a, .int .i64 b, .int .i64 c, .int .i64 r]) ∧ w = w') ∧
    (∀ w, Calls Tryd.prog 23 #[.int .i64 n] w fun e w' => e = .returned (.tuple #[.int .i64 a, .int .i64 b, .int .i64 c, .int .i64 r]) ∧ Below w.heap.size w w') := by
  by_cases h : n < 0 ∨ 2932896 < n
  · exact ⟨_, _, _, _, fun w _ => date_no n w h, fun w => (dateR_no n w h).mono fun _ _ ⟨h1, h2⟩ => ⟨h1, by subst h2; exact Below.refl _ _⟩⟩
  · obtain ⟨y, m, d, v, hn⟩ := Civ.date_ex n (by omega) (by omega)
    exact ⟨_, _, _, _, fun w L => date_yes y m d n w L v hn, fun w => dateR_yes y m d n w v hn⟩
theorem of_both (t : Int) : ∃ y m d h i s r : Int,
    (∀ w, Lay w → Calls Tryd.prog 24 #[.int .i64 t] w fun e w' => e = .returned (.tuple #[.agg #[.int .i64 y, .int .i64 m, .int .i64 d, .int .i64 h, .int .i64 i, .int .i64 s], .int .i64 r]) ∧ Below w.heap.size w w') ∧
    (∀ w, Calls Tryd.prog 25 #[.int .i64 t] w fun e w' => e = .returned (.tuple #[.agg #[.int .i64 y, .int .i64 m, .int .i64 d, .int .i64 h, .int .i64 i, .int .i64 s], .int .i64 r]) ∧ Below w.heap.size w w') := by
  by_cases h : t < 0 ∨ 253402300799 < t
  · exact ⟨_, _, _, _, _, _, _, fun w _ => of_no t w h, fun w => ofR_no t w h⟩
  · obtain ⟨y, m, d, h, i, s, v, ht⟩ := Civ.civil_ex t (by omega) (by omega)
    exact ⟨_, _, _, _, _, _, _, fun w L => of_yes y m d h i s t w L v ht, fun w => ofR_yes y m d h i s t w v ht⟩
theorem week_both (t : Int) : ∃ a r : Int,
    (∀ w, Calls Tryd.prog 26 #[.int .i64 t] w fun e w' => e = .returned (.tuple #[.int .i64 a, .int .i64 r]) ∧ w = w') ∧
    (∀ w, Calls Tryd.prog 27 #[.int .i64 t] w fun e w' => e = .returned (.tuple #[.int .i64 a, .int .i64 r]) ∧ w = w') := by
  by_cases h : t < 0 ∨ 253402300799 < t
  · exact ⟨_, _, fun w => week_no t w h, fun w => weekR_no t w h⟩
  · exact ⟨_, _, fun w => week_yes t w (by omega) (by omega), fun w => weekR_yes t w (by omega) (by omega)⟩
theorem text_both (t : Int) : ∃ (S : ByteArray) (r : Int),
    (∀ w, Lay w → Calls Tryd.prog 28 #[.int .i64 t] w fun e w' => e = .returned (.tuple #[.string S, .int .i64 r]) ∧ Below w.heap.size w w') ∧
    (∀ w, Calls Tryd.prog 29 #[.int .i64 t] w fun e w' => e = .returned (.tuple #[.string S, .int .i64 r]) ∧ Below w.heap.size w w') := by
  by_cases h : t < 0 ∨ 253402300799 < t
  · exact ⟨_, _, fun w _ => text_no t w h, fun w => textR_no t w h⟩
  · obtain ⟨y, m, d, h, i, s, v, ht⟩ := Civ.civil_ex t (by omega) (by omega)
    exact ⟨_, _, fun w L => text_yes y m d h i s t w L v ht, fun w => textR_yes y m d h i s t w v ht⟩
theorem time_both (y m d h i s : Int) : ∃ a r : Int,
    (∀ w, Lay w → Calls Tryd.prog 30 #[.agg #[.int .i64 y, .int .i64 m, .int .i64 d, .int .i64 h, .int .i64 i, .int .i64 s]] w fun e w' => e = .returned (.tuple #[.int .i64 a, .int .i64 r]) ∧ Below w.heap.size w w') ∧
    (∀ w, Calls Tryd.prog 31 #[.agg #[.int .i64 y, .int .i64 m, .int .i64 d, .int .i64 h, .int .i64 i, .int .i64 s]] w fun e w' => e = .returned (.tuple #[.int .i64 a, .int .i64 r]) ∧ Below w.heap.size w w') := by
  by_cases v : Civ.CVld y m d h i s
  · exact ⟨_, _, fun w L => time_yes y m d h i s _ w L v rfl, fun w => timeR_yes y m d h i s _ w v rfl⟩
  · exact ⟨_, _, fun w L => time_no y m d h i s w L v, fun w => timeR_no y m d h i s w v⟩
theorem parse_both (s : ByteArray) : ∃ a r : Int,
    (∀ w, Lay w → Calls Tryd.prog 34 #[.string s] w fun e w' => e = .returned (.tuple #[.int .i64 a, .int .i64 r]) ∧ Below w.heap.size w w') ∧
    (∀ w, Calls Tryd.prog 35 #[.string s] w fun e w' => e = .returned (.tuple #[.int .i64 a, .int .i64 r]) ∧ Below w.heap.size w w') := by
  by_cases hs : s.size = 19
  · by_cases hg : ∀ k, k < 19 → Good s k
    · obtain ⟨a, r, A, B⟩ := time_both (fld s 0 4) (fld s 5 7) (fld s 8 10) (fld s 11 13) (fld s 14 16) (fld s 17 19)
      exact ⟨a, r, fun w L => parse_six s w L hs hg a r (fun w1 L1 => A w1 L1), fun w => parseR_any s w hs a r (.inr ⟨hg, fun w1 => B w1⟩)⟩
    · have hb : ∃ k, k < 19 ∧ ¬ Good s k := Classical.byContradiction fun c => hg fun k hk => Classical.byContradiction fun g => c ⟨k, hk, g⟩
      exact ⟨0, 10, fun w _ => parse_form s w (.inr hb), fun w => parseR_any s w hs 0 10 (.inl ⟨rfl, rfl, hb⟩)⟩
  · exact ⟨0, 10, fun w _ => parse_form s w (.inl hs), fun w => (parseR_len s w hs).mono fun _ _ ⟨h1, h2⟩ => ⟨h1, by subst h2; exact Below.refl _ _⟩⟩
end Go.Proofs.YtjffnjoeeclckaaDoor
