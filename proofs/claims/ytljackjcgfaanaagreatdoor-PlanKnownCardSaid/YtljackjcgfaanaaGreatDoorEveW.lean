/- works: the chapter's examples hold; what a call leaves behind. -/
import Derived.Test.YtljackjcgfaanaaGreatDoorGEveB
import Derived.Test.YtljackjcgfaanaaGreatDoorMEveP
import Derived.Test.YtljackjcgfaanaaGreatDoorShelf
import Derived.Laws.Externs
import Derived.Laws.Shifts
import Derived.Laws.Bits64b
import Derived.Lib.ItoaNum
import Derived.Deep.CutBlock
namespace Go.Proofs.YtljackjcgfaanaaGreatDoor.En
open Go.ChangeShapes Go.RowKit
theorem isR_ex (s p c t : Int) : ∃ b r, IsR s p c t b r := by
  classical
  by_cases h : Ev.Ok s p c
  · by_cases k : Vt t
    · exact ⟨decide (Ev.On s p c t), 0, .inr (.inr ⟨h, k, rfl, by simp⟩)⟩
    · exact ⟨_, _, .inr (.inl ⟨h, k, rfl, rfl⟩)⟩
  · exact ⟨_, _, .inl ⟨h, rfl, rfl⟩⟩
theorem next_ex {s p c : Int} (t : Int) (h : Ev.Ok s p c) : ∃ v b, Ev.IsNext s p c t v b := by
  by_cases q : Ev.upto s p c t < Ev.num s p c
  · exact ⟨_, _, Ev.next_some h q⟩
  · exact ⟨_, _, Ev.next_none h (by omega)⟩
theorem nextR_ex (s p c t : Int) : ∃ v b r, NextR s p c t v b r := by
  by_cases h : Ev.Ok s p c
  · by_cases k : Vt t
    · obtain ⟨v, b, q⟩ := next_ex t h
      exact ⟨v, b, 0, .inr (.inr ⟨h, k, rfl, q⟩)⟩
    · exact ⟨_, _, _, .inr (.inl ⟨h, k, rfl, rfl, rfl⟩)⟩
  · exact ⟨_, _, _, .inl ⟨h, rfl, rfl, rfl⟩⟩
theorem countR_ex (s p c a b : Int) : ∃ n r, CountR s p c a b n r := by
  by_cases h : Ev.Ok s p c
  · by_cases k : Vt a ∧ Vt b
    · exact ⟨_, _, .inr (.inr ⟨h, k.1, k.2, rfl, rfl⟩)⟩
    · exact ⟨_, _, .inr (.inl ⟨h, k, rfl, rfl⟩)⟩
  · exact ⟨_, _, .inl ⟨h, rfl, rfl⟩⟩
open Classical in
/-- the answer of Check -/
noncomputable def errE (s p c : Int) : Int := if Ev.Ok s p c then 0 else 16
theorem check_any (s p c r : Int) (w : World) (h : errE s p c = r) : Calls Tryz.prog 79 #[.agg #[.int .i64 s, .int .i64 p, .int .i64 c]] w fun e w' => e = .returned (.int .i64 r) ∧ Below w.heap.size w w' := by
  unfold errE at h
  by_cases k : Ev.Ok s p c
  · rw [if_pos k] at h; subst h; exact check_yes s p c w k
  · rw [if_neg k] at h; subst h; exact check_no s p c w k
theorem rcheck_any (s p c r : Int) (w : World) (h : errE s p c = r) : Calls Tryz.prog 47 #[.agg #[.int .i64 s, .int .i64 p, .int .i64 c]] w fun e w' => e = .returned (.int .i64 r) ∧ Below w.heap.size w w' := by
  unfold errE at h
  by_cases k : Ev.Ok s p c
  · rw [if_pos k] at h; subst h; exact rcheck_yes s p c w k
  · rw [if_neg k] at h; subst h; exact rcheck_no s p c w k
end Go.Proofs.YtljackjcgfaanaaGreatDoor.En
