/-
  No cell of these rows narrows 'for every input' (looked for: loops, veiled, ifaces, maps, wideKeys, modest, calm, conditions, laid).
  DERIVED. THE GIVEN ROWS OF THIS SEAT. 11 by the template 'for every input the law returns true; each argument reads behind the call as it read before'; 0 by the template 'total and deterministic' (their statements: YtnajpgkahnjabaaTotals.lean).
  GIVEN WITH THE SEED: the statements are not yours to turn. If you find one false, say at which input.
  Laid BY PROGRAM, IN A SANDBOX (cutbox-rows.mjs): the forced cells as the released guide's own fill.sh prints them over the translation 6b65447ebe3a5360… (all of the seat's roots in one cut). By AI agents, Wed Nov 11 2026. No macro, syntax, notation, axiom, sorry.
-/
import Derived.Test.YtnajpgkahnjabaaChecked
import GoSem.Claim
import GoSem.ClaimJoined
import GoSem.ClaimMapViews
import Derived.JoinedTies
import Derived.KernelRfl
namespace Go.Proofs.Ytnajpgkahnjabaa
/- THE CELL 'sum', in the pinned program and in every row, IS THE sha256 OF THE DUMP (.gsa) THAT YtnajpgkahnjabaaProg.lean LOADS. Nothing in Lean hashes anything: it is a label: what it is worth is what the hold of that sum in a sandbox is worth. -/
noncomputable def Try.pinned : Pinned := { name := "ytnajpgkahnjabaa", sum := "6b65447ebe3a5360377a0a65bc476aa98add2c61132e83b11faf504b2ba1d85a", checked := Try.checked }
namespace Rows
def none {H : Type} : Left H := { results := [], args := [] }

/-- 'wakemanlaw10.EveryTimes': WHATEVER THE INPUT: true; the input reads as it did. -/
def everyTimesSpec : ChangeSpec := { name := "everyTimes", fn := fun _ => fun
  | [d1, d2] => { results := [.lit (.bool true)], args := [d1, d2] }
  | _ => none }
def everyTimesRow : OpenClaim := { program := "ytnajpgkahnjabaa", sum := "6b65447ebe3a5360377a0a65bc476aa98add2c61132e83b11faf504b2ba1d85a", func := "wakeman/wakemanlaw10.EveryTimes", spec := "everyTimes", inPlace := ["math/bits.Add64"], recurses := true, named := ["math/bits.divideError", "math/bits.overflowError"], apart := false }
def EveryTimesSaid : Prop := everyTimesRow.holds Try.pinned (OpenSpec.ofChange everyTimesSpec)

/-- ITS FALSE NEIGHBOUR: 'it returns false'. Refute it at one input. -/
def everyTimesWrong : ChangeSpec := { name := "everyTimes", fn := fun _ => fun
  | [d1, d2] => { results := [.lit (.bool false)], args := [d1, d2] }
  | _ => none }
def EveryTimesWrongFalsely : Prop := everyTimesRow.holds Try.pinned (OpenSpec.ofChange everyTimesWrong)

/-- 'wakemanlaw10.EveryCounts': WHATEVER THE INPUT: true; the input reads as it did. -/
def everyCountsSpec : ChangeSpec := { name := "everyCounts", fn := fun _ => fun
  | [d1, d2, d3] => { results := [.lit (.bool true)], args := [d1, d2, d3] }
  | _ => none }
def everyCountsRow : OpenClaim := { program := "ytnajpgkahnjabaa", sum := "6b65447ebe3a5360377a0a65bc476aa98add2c61132e83b11faf504b2ba1d85a", func := "wakeman/wakemanlaw10.EveryCounts", spec := "everyCounts", inPlace := ["math/bits.Add64"], recurses := true, named := ["math/bits.divideError", "math/bits.overflowError"], apart := false }
def EveryCountsSaid : Prop := everyCountsRow.holds Try.pinned (OpenSpec.ofChange everyCountsSpec)

/-- ITS FALSE NEIGHBOUR: 'it returns false'. Refute it at one input. -/
def everyCountsWrong : ChangeSpec := { name := "everyCounts", fn := fun _ => fun
  | [d1, d2, d3] => { results := [.lit (.bool false)], args := [d1, d2, d3] }
  | _ => none }
def EveryCountsWrongFalsely : Prop := everyCountsRow.holds Try.pinned (OpenSpec.ofChange everyCountsWrong)

/-- 'wakemanlaw10.EveryNumbers': WHATEVER THE INPUT: true; the input reads as it did. -/
def everyNumbersSpec : ChangeSpec := { name := "everyNumbers", fn := fun _ => fun
  | [d1, d2, d3] => { results := [.lit (.bool true)], args := [d1, d2, d3] }
  | _ => none }
def everyNumbersRow : OpenClaim := { program := "ytnajpgkahnjabaa", sum := "6b65447ebe3a5360377a0a65bc476aa98add2c61132e83b11faf504b2ba1d85a", func := "wakeman/wakemanlaw10.EveryNumbers", spec := "everyNumbers", inPlace := ["math/bits.Add64"], recurses := true, named := ["math/bits.divideError", "math/bits.overflowError"], apart := false }
def EveryNumbersSaid : Prop := everyNumbersRow.holds Try.pinned (OpenSpec.ofChange everyNumbersSpec)

/-- ITS FALSE NEIGHBOUR: 'it returns false'. Refute it at one input. -/
def everyNumbersWrong : ChangeSpec := { name := "everyNumbers", fn := fun _ => fun
  | [d1, d2, d3] => { results := [.lit (.bool false)], args := [d1, d2, d3] }
  | _ => none }
def EveryNumbersWrongFalsely : Prop := everyNumbersRow.holds Try.pinned (OpenSpec.ofChange everyNumbersWrong)

/-- 'wakemanlaw10.EveryMeets': WHATEVER THE INPUT: true; the input reads as it did. -/
def everyMeetsSpec : ChangeSpec := { name := "everyMeets", fn := fun _ => fun
  | [d1, d2] => { results := [.lit (.bool true)], args := [d1, d2] }
  | _ => none }
def everyMeetsRow : OpenClaim := { program := "ytnajpgkahnjabaa", sum := "6b65447ebe3a5360377a0a65bc476aa98add2c61132e83b11faf504b2ba1d85a", func := "wakeman/wakemanlaw10.EveryMeets", spec := "everyMeets", inPlace := ["math/bits.Add64"], recurses := true, named := ["math/bits.divideError", "math/bits.overflowError"], apart := false }
def EveryMeetsSaid : Prop := everyMeetsRow.holds Try.pinned (OpenSpec.ofChange everyMeetsSpec)

/-- ITS FALSE NEIGHBOUR: 'it returns false'. Refute it at one input. -/
def everyMeetsWrong : ChangeSpec := { name := "everyMeets", fn := fun _ => fun
  | [d1, d2] => { results := [.lit (.bool false)], args := [d1, d2] }
  | _ => none }
def EveryMeetsWrongFalsely : Prop := everyMeetsRow.holds Try.pinned (OpenSpec.ofChange everyMeetsWrong)

/-- 'wakemanlaw10.EverySteps': WHATEVER THE INPUT: true; the input reads as it did. -/
def everyStepsSpec : ChangeSpec := { name := "everySteps", fn := fun _ => fun
  | [d1, d2] => { results := [.lit (.bool true)], args := [d1, d2] }
  | _ => none }
def everyStepsRow : OpenClaim := { program := "ytnajpgkahnjabaa", sum := "6b65447ebe3a5360377a0a65bc476aa98add2c61132e83b11faf504b2ba1d85a", func := "wakeman/wakemanlaw10.EverySteps", spec := "everySteps", inPlace := ["math/bits.Add64"], recurses := true, named := ["math/bits.divideError", "math/bits.overflowError"], apart := false }
def EveryStepsSaid : Prop := everyStepsRow.holds Try.pinned (OpenSpec.ofChange everyStepsSpec)

/-- ITS FALSE NEIGHBOUR: 'it returns false'. Refute it at one input. -/
def everyStepsWrong : ChangeSpec := { name := "everySteps", fn := fun _ => fun
  | [d1, d2] => { results := [.lit (.bool false)], args := [d1, d2] }
  | _ => none }
def EveryStepsWrongFalsely : Prop := everyStepsRow.holds Try.pinned (OpenSpec.ofChange everyStepsWrong)

/-- 'wakemanlaw10.EveryIndexes': WHATEVER THE INPUT: true; the input reads as it did. -/
def everyIndexesSpec : ChangeSpec := { name := "everyIndexes", fn := fun _ => fun
  | [d1, d2, d3] => { results := [.lit (.bool true)], args := [d1, d2, d3] }
  | _ => none }
def everyIndexesRow : OpenClaim := { program := "ytnajpgkahnjabaa", sum := "6b65447ebe3a5360377a0a65bc476aa98add2c61132e83b11faf504b2ba1d85a", func := "wakeman/wakemanlaw10.EveryIndexes", spec := "everyIndexes", inPlace := ["math/bits.Add64"], recurses := true, named := ["math/bits.divideError", "math/bits.overflowError"], apart := false }
def EveryIndexesSaid : Prop := everyIndexesRow.holds Try.pinned (OpenSpec.ofChange everyIndexesSpec)

/-- ITS FALSE NEIGHBOUR: 'it returns false'. Refute it at one input. -/
def everyIndexesWrong : ChangeSpec := { name := "everyIndexes", fn := fun _ => fun
  | [d1, d2, d3] => { results := [.lit (.bool false)], args := [d1, d2, d3] }
  | _ => none }
def EveryIndexesWrongFalsely : Prop := everyIndexesRow.holds Try.pinned (OpenSpec.ofChange everyIndexesWrong)

/-- 'wakemanlaw10.EverySums': WHATEVER THE INPUT: true; the input reads as it did. -/
def everySumsSpec : ChangeSpec := { name := "everySums", fn := fun _ => fun
  | [d1, d2, d3, d4] => { results := [.lit (.bool true)], args := [d1, d2, d3, d4] }
  | _ => none }
def everySumsRow : OpenClaim := { program := "ytnajpgkahnjabaa", sum := "6b65447ebe3a5360377a0a65bc476aa98add2c61132e83b11faf504b2ba1d85a", func := "wakeman/wakemanlaw10.EverySums", spec := "everySums", inPlace := ["math/bits.Add64"], recurses := true, named := ["math/bits.divideError", "math/bits.overflowError"], apart := false }
def EverySumsSaid : Prop := everySumsRow.holds Try.pinned (OpenSpec.ofChange everySumsSpec)

/-- ITS FALSE NEIGHBOUR: 'it returns false'. Refute it at one input. -/
def everySumsWrong : ChangeSpec := { name := "everySums", fn := fun _ => fun
  | [d1, d2, d3, d4] => { results := [.lit (.bool false)], args := [d1, d2, d3, d4] }
  | _ => none }
def EverySumsWrongFalsely : Prop := everySumsRow.holds Try.pinned (OpenSpec.ofChange everySumsWrong)

/-- 'wakemanlaw10.EveryEnds': WHATEVER THE INPUT: true; the input reads as it did. -/
def everyEndsSpec : ChangeSpec := { name := "everyEnds", fn := fun _ => fun
  | [d] => { results := [.lit (.bool true)], args := [d] }
  | _ => none }
def everyEndsRow : OpenClaim := { program := "ytnajpgkahnjabaa", sum := "6b65447ebe3a5360377a0a65bc476aa98add2c61132e83b11faf504b2ba1d85a", func := "wakeman/wakemanlaw10.EveryEnds", spec := "everyEnds", inPlace := ["math/bits.Add64"], recurses := true, named := ["math/bits.divideError", "math/bits.overflowError"], apart := false }
def EveryEndsSaid : Prop := everyEndsRow.holds Try.pinned (OpenSpec.ofChange everyEndsSpec)

/-- ITS FALSE NEIGHBOUR: 'it returns false'. Refute it at one input. -/
def everyEndsWrong : ChangeSpec := { name := "everyEnds", fn := fun _ => fun
  | [d] => { results := [.lit (.bool false)], args := [d] }
  | _ => none }
def EveryEndsWrongFalsely : Prop := everyEndsRow.holds Try.pinned (OpenSpec.ofChange everyEndsWrong)

/-- 'wakemanlaw10.EveryShares': WHATEVER THE INPUT: true; the input reads as it did. -/
def everySharesSpec : ChangeSpec := { name := "everyShares", fn := fun _ => fun
  | [d1, d2] => { results := [.lit (.bool true)], args := [d1, d2] }
  | _ => none }
def everySharesRow : OpenClaim := { program := "ytnajpgkahnjabaa", sum := "6b65447ebe3a5360377a0a65bc476aa98add2c61132e83b11faf504b2ba1d85a", func := "wakeman/wakemanlaw10.EveryShares", spec := "everyShares", inPlace := ["math/bits.Add64"], recurses := true, named := ["math/bits.divideError", "math/bits.overflowError"], apart := false }
def EverySharesSaid : Prop := everySharesRow.holds Try.pinned (OpenSpec.ofChange everySharesSpec)

/-- ITS FALSE NEIGHBOUR: 'it returns false'. Refute it at one input. -/
def everySharesWrong : ChangeSpec := { name := "everyShares", fn := fun _ => fun
  | [d1, d2] => { results := [.lit (.bool false)], args := [d1, d2] }
  | _ => none }
def EverySharesWrongFalsely : Prop := everySharesRow.holds Try.pinned (OpenSpec.ofChange everySharesWrong)

/-- 'wakemanlaw10.EveryWalks': WHATEVER THE INPUT: true; the input reads as it did. -/
def everyWalksSpec : ChangeSpec := { name := "everyWalks", fn := fun _ => fun
  | [d1, d2, d3, d4, d5, d6] => { results := [.lit (.bool true)], args := [d1, d2, d3, d4, d5, d6] }
  | _ => none }
def everyWalksRow : OpenClaim := { program := "ytnajpgkahnjabaa", sum := "6b65447ebe3a5360377a0a65bc476aa98add2c61132e83b11faf504b2ba1d85a", func := "wakeman/wakemanlaw10.EveryWalks", spec := "everyWalks", inPlace := ["math/bits.Add64"], recurses := true, named := ["math/bits.divideError", "math/bits.overflowError"], apart := false }
def EveryWalksSaid : Prop := everyWalksRow.holds Try.pinned (OpenSpec.ofChange everyWalksSpec)

/-- ITS FALSE NEIGHBOUR: 'it returns false'. Refute it at one input. -/
def everyWalksWrong : ChangeSpec := { name := "everyWalks", fn := fun _ => fun
  | [d1, d2, d3, d4, d5, d6] => { results := [.lit (.bool false)], args := [d1, d2, d3, d4, d5, d6] }
  | _ => none }
def EveryWalksWrongFalsely : Prop := everyWalksRow.holds Try.pinned (OpenSpec.ofChange everyWalksWrong)

/-- 'wakemanlaw10.EveryShifts': WHATEVER THE INPUT: true; the input reads as it did. -/
def everyShiftsSpec : ChangeSpec := { name := "everyShifts", fn := fun _ => fun
  | [d1, d2, d3] => { results := [.lit (.bool true)], args := [d1, d2, d3] }
  | _ => none }
def everyShiftsRow : OpenClaim := { program := "ytnajpgkahnjabaa", sum := "6b65447ebe3a5360377a0a65bc476aa98add2c61132e83b11faf504b2ba1d85a", func := "wakeman/wakemanlaw10.EveryShifts", spec := "everyShifts", inPlace := ["math/bits.Add64"], recurses := true, named := ["math/bits.divideError", "math/bits.overflowError"], apart := false }
def EveryShiftsSaid : Prop := everyShiftsRow.holds Try.pinned (OpenSpec.ofChange everyShiftsSpec)

/-- ITS FALSE NEIGHBOUR: 'it returns false'. Refute it at one input. -/
def everyShiftsWrong : ChangeSpec := { name := "everyShifts", fn := fun _ => fun
  | [d1, d2, d3] => { results := [.lit (.bool false)], args := [d1, d2, d3] }
  | _ => none }
def EveryShiftsWrongFalsely : Prop := everyShiftsRow.holds Try.pinned (OpenSpec.ofChange everyShiftsWrong)

/- THE SECOND FORM. 'bulk': how many values and letters a reading holds, each counted each time it is reached (what is shared counts as often as it is met; a slice's spare places count too). A statement '..UptoSaid' is the law's where the arguments, and the package variables that the reading takes, are together of bulk at most 1048576: NARROWER than '..Said'. Prove '..Said' where nothing that the law and all that it calls make is longer than what came in: it says more and counts as full. Else prove '..UptoSaid'. A law counts once. -/
mutual
def uptoBulk {H : Type} : DataW H → Nat
  | .lit (.string bytes) => bytes.length + 1
  | .lit _ => 1
  | .nil => 1
  | .ptr d => uptoBulk d + 1
  | .slice elems spare => uptoBulkAll elems + uptoBulkAll spare + 1
  | .agg parts => uptoBulkAll parts + 1
  | .iface _ d => uptoBulk d + 1
  | .map entries => uptoBulkEntries entries + 1
  | .held _ => 1
def uptoBulkAll {H : Type} : List (DataW H) → Nat
  | [] => 0
  | d :: r => uptoBulk d + uptoBulkAll r
def uptoBulkEntries {H : Type} : List (Lit × DataW H) → Nat
  | [] => 0
  | x :: r => uptoBulkEntry x + uptoBulkEntries r
def uptoBulkEntry {H : Type} : Lit × DataW H → Nat
  | (.string bytes, d) => bytes.length + uptoBulk d + 1
  | (_, d) => uptoBulk d + 1
 end
def uptoSmall : (H : Type) → List (DataW H) → Bool := fun _ ds => decide (uptoBulkAll ds ≤ 1048576)
def OpenSpec.upto (s : _root_.Go.ChangeSpec) : _root_.Go.OpenSpec := { _root_.Go.OpenSpec.ofChange s with cond := some uptoSmall }

/-- 'wakemanlaw10.EveryTimes', WHERE WHAT IT READS IS OF BULK AT MOST 1048576: true; the input reads as it did. -/
def everyTimesUptoRow : OpenClaim := { program := "ytnajpgkahnjabaa", sum := "6b65447ebe3a5360377a0a65bc476aa98add2c61132e83b11faf504b2ba1d85a", func := "wakeman/wakemanlaw10.EveryTimes", spec := "everyTimes", inPlace := ["math/bits.Add64"], recurses := true, named := ["math/bits.divideError", "math/bits.overflowError"], apart := false, narrowed := true }
def EveryTimesUptoSaid : Prop := everyTimesUptoRow.holds Try.pinned (OpenSpec.upto everyTimesSpec)

/-- 'wakemanlaw10.EveryCounts', WHERE WHAT IT READS IS OF BULK AT MOST 1048576: true; the input reads as it did. -/
def everyCountsUptoRow : OpenClaim := { program := "ytnajpgkahnjabaa", sum := "6b65447ebe3a5360377a0a65bc476aa98add2c61132e83b11faf504b2ba1d85a", func := "wakeman/wakemanlaw10.EveryCounts", spec := "everyCounts", inPlace := ["math/bits.Add64"], recurses := true, named := ["math/bits.divideError", "math/bits.overflowError"], apart := false, narrowed := true }
def EveryCountsUptoSaid : Prop := everyCountsUptoRow.holds Try.pinned (OpenSpec.upto everyCountsSpec)

/-- 'wakemanlaw10.EveryNumbers', WHERE WHAT IT READS IS OF BULK AT MOST 1048576: true; the input reads as it did. -/
def everyNumbersUptoRow : OpenClaim := { program := "ytnajpgkahnjabaa", sum := "6b65447ebe3a5360377a0a65bc476aa98add2c61132e83b11faf504b2ba1d85a", func := "wakeman/wakemanlaw10.EveryNumbers", spec := "everyNumbers", inPlace := ["math/bits.Add64"], recurses := true, named := ["math/bits.divideError", "math/bits.overflowError"], apart := false, narrowed := true }
def EveryNumbersUptoSaid : Prop := everyNumbersUptoRow.holds Try.pinned (OpenSpec.upto everyNumbersSpec)

/-- 'wakemanlaw10.EveryMeets', WHERE WHAT IT READS IS OF BULK AT MOST 1048576: true; the input reads as it did. -/
def everyMeetsUptoRow : OpenClaim := { program := "ytnajpgkahnjabaa", sum := "6b65447ebe3a5360377a0a65bc476aa98add2c61132e83b11faf504b2ba1d85a", func := "wakeman/wakemanlaw10.EveryMeets", spec := "everyMeets", inPlace := ["math/bits.Add64"], recurses := true, named := ["math/bits.divideError", "math/bits.overflowError"], apart := false, narrowed := true }
def EveryMeetsUptoSaid : Prop := everyMeetsUptoRow.holds Try.pinned (OpenSpec.upto everyMeetsSpec)

/-- 'wakemanlaw10.EverySteps', WHERE WHAT IT READS IS OF BULK AT MOST 1048576: true; the input reads as it did. -/
def everyStepsUptoRow : OpenClaim := { program := "ytnajpgkahnjabaa", sum := "6b65447ebe3a5360377a0a65bc476aa98add2c61132e83b11faf504b2ba1d85a", func := "wakeman/wakemanlaw10.EverySteps", spec := "everySteps", inPlace := ["math/bits.Add64"], recurses := true, named := ["math/bits.divideError", "math/bits.overflowError"], apart := false, narrowed := true }
def EveryStepsUptoSaid : Prop := everyStepsUptoRow.holds Try.pinned (OpenSpec.upto everyStepsSpec)

/-- 'wakemanlaw10.EveryIndexes', WHERE WHAT IT READS IS OF BULK AT MOST 1048576: true; the input reads as it did. -/
def everyIndexesUptoRow : OpenClaim := { program := "ytnajpgkahnjabaa", sum := "6b65447ebe3a5360377a0a65bc476aa98add2c61132e83b11faf504b2ba1d85a", func := "wakeman/wakemanlaw10.EveryIndexes", spec := "everyIndexes", inPlace := ["math/bits.Add64"], recurses := true, named := ["math/bits.divideError", "math/bits.overflowError"], apart := false, narrowed := true }
def EveryIndexesUptoSaid : Prop := everyIndexesUptoRow.holds Try.pinned (OpenSpec.upto everyIndexesSpec)

/-- 'wakemanlaw10.EverySums', WHERE WHAT IT READS IS OF BULK AT MOST 1048576: true; the input reads as it did. -/
def everySumsUptoRow : OpenClaim := { program := "ytnajpgkahnjabaa", sum := "6b65447ebe3a5360377a0a65bc476aa98add2c61132e83b11faf504b2ba1d85a", func := "wakeman/wakemanlaw10.EverySums", spec := "everySums", inPlace := ["math/bits.Add64"], recurses := true, named := ["math/bits.divideError", "math/bits.overflowError"], apart := false, narrowed := true }
def EverySumsUptoSaid : Prop := everySumsUptoRow.holds Try.pinned (OpenSpec.upto everySumsSpec)

/-- 'wakemanlaw10.EveryEnds', WHERE WHAT IT READS IS OF BULK AT MOST 1048576: true; the input reads as it did. -/
def everyEndsUptoRow : OpenClaim := { program := "ytnajpgkahnjabaa", sum := "6b65447ebe3a5360377a0a65bc476aa98add2c61132e83b11faf504b2ba1d85a", func := "wakeman/wakemanlaw10.EveryEnds", spec := "everyEnds", inPlace := ["math/bits.Add64"], recurses := true, named := ["math/bits.divideError", "math/bits.overflowError"], apart := false, narrowed := true }
def EveryEndsUptoSaid : Prop := everyEndsUptoRow.holds Try.pinned (OpenSpec.upto everyEndsSpec)

/-- 'wakemanlaw10.EveryShares', WHERE WHAT IT READS IS OF BULK AT MOST 1048576: true; the input reads as it did. -/
def everySharesUptoRow : OpenClaim := { program := "ytnajpgkahnjabaa", sum := "6b65447ebe3a5360377a0a65bc476aa98add2c61132e83b11faf504b2ba1d85a", func := "wakeman/wakemanlaw10.EveryShares", spec := "everyShares", inPlace := ["math/bits.Add64"], recurses := true, named := ["math/bits.divideError", "math/bits.overflowError"], apart := false, narrowed := true }
def EverySharesUptoSaid : Prop := everySharesUptoRow.holds Try.pinned (OpenSpec.upto everySharesSpec)

/-- 'wakemanlaw10.EveryWalks', WHERE WHAT IT READS IS OF BULK AT MOST 1048576: true; the input reads as it did. -/
def everyWalksUptoRow : OpenClaim := { program := "ytnajpgkahnjabaa", sum := "6b65447ebe3a5360377a0a65bc476aa98add2c61132e83b11faf504b2ba1d85a", func := "wakeman/wakemanlaw10.EveryWalks", spec := "everyWalks", inPlace := ["math/bits.Add64"], recurses := true, named := ["math/bits.divideError", "math/bits.overflowError"], apart := false, narrowed := true }
def EveryWalksUptoSaid : Prop := everyWalksUptoRow.holds Try.pinned (OpenSpec.upto everyWalksSpec)

/-- 'wakemanlaw10.EveryShifts', WHERE WHAT IT READS IS OF BULK AT MOST 1048576: true; the input reads as it did. -/
def everyShiftsUptoRow : OpenClaim := { program := "ytnajpgkahnjabaa", sum := "6b65447ebe3a5360377a0a65bc476aa98add2c61132e83b11faf504b2ba1d85a", func := "wakeman/wakemanlaw10.EveryShifts", spec := "everyShifts", inPlace := ["math/bits.Add64"], recurses := true, named := ["math/bits.divideError", "math/bits.overflowError"], apart := false, narrowed := true }
def EveryShiftsUptoSaid : Prop := everyShiftsUptoRow.holds Try.pinned (OpenSpec.upto everyShiftsSpec)

end Rows
end Go.Proofs.Ytnajpgkahnjabaa
