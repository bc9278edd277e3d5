/- Contracts of Days, of package civil and of the document's: the days of each date, and the error of what is no date. -/
import Derived.Test.YtbehendogcghjaaDoorMCivA
import Derived.Test.YtbehendogcghjaaDoorProg
import Derived.WalkKit
import Derived.ProofKit
import Derived.Laws.StructEq
namespace Go.Proofs.YtbehendogcghjaaDoor.Cv
open Go.ChangeShapes Go.RowKit
/-- whatever the number: a valid date, or none -/
theorem date_some (n : Int) (w : World) (L : Lay w) :
    Calls Tryd.prog 76 #[.int .i64 n] w fun e w' => ∃ a b c r : Int, e = .returned (.tuple #[.int .i64 a, .int .i64 b, .int .i64 c, .int .i64 r]) ∧ (a = 0 ∨ Civ.Vld a b c) ∧ w = w' := by
  by_cases h : n < 0 ∨ 2932896 < n
  · exact (date_no n w h).mono fun e w' ⟨h1, h2⟩ => ⟨0, 0, 0, 14, h1, .inl rfl, h2⟩
  · obtain ⟨y, m, d, v, hn⟩ := Civ.date_ex n (by omega) (by omega)
    exact (date_yes y m d n w L v hn).mono fun e w' ⟨h1, h2⟩ => ⟨y, m, d, 0, h1, .inr v, h2⟩

end Go.Proofs.YtbehendogcghjaaDoor.Cv
