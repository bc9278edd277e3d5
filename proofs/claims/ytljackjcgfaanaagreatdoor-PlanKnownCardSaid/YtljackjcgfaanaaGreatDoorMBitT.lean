/- The examples of the chapter hold: what each of the statements asks besides. -/
import Derived.Test.YtljackjcgfaanaaGreatDoorMBitG
import Derived.Laws.EntriesVeiled
import Derived.RangeFuncNested
import Derived.RangeFuncCalls
import Derived.Laws.StructEq
import Derived.Deep.RegionLaw
import Derived.WalkSmall
import Derived.DataShut
/- The examples of the chapter hold: what each of the statements asks besides. -/
namespace Go.Proofs.YtljackjcgfaanaaGreatDoor
open Go.ChangeShapes Go.RowKit

theorem nat_u64 {s : Int} (h : (Lit.int .u64 s).wf = true) : ∃ S : Nat, s = S ∧ S < 2 ^ 64 := by
  rw [Lit.wf_int_iff] at h
  have h1 : 0 ≤ s ∧ s ≤ 18446744073709551615 := by simpa [IntKind.min, IntKind.max, IntKind.signed, IntKind.bits] using h
  obtain ⟨S, rfl⟩ := Int.eq_ofNat_of_zero_le h1.1
  exact ⟨S, rfl, by omega⟩
theorem int_i64 {s : Int} (h : (Lit.int .i64 s).wf = true) : -9223372036854775808 ≤ s ∧ s ≤ 9223372036854775807 := by
  rw [Lit.wf_int_iff] at h
  simpa [IntKind.min, IntKind.max, IntKind.signed, IntKind.bits] using h
end Go.Proofs.YtljackjcgfaanaaGreatDoor
