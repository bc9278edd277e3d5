/-
  NARROWER THAN 'FOR EVERY INPUT', by the rows' own cells (each row's printed sentence says how): ZoneTexts: laid · ZoneLocals: laid · ZoneBacks: laid · ZoneSames: laid · ZoneReturns: laid · ZoneShifts: laid · ZoneDays: laid · ZoneSplits: laid · ZoneSpells: laid · ZoneEnds: laid.
  DERIVED. THE GIVEN ROWS OF THIS SEAT. 10 by the template 'for every input the law returns true; each argument reads behind the call as it read before'; 0 by the template 'total and deterministic' (their statements: YtbnhbfemoaokkaaDoorTotals.lean).
  GIVEN WITH THE SEED: the statements are not yours to turn. If you find one false, say at which input.
  Laid BY PROGRAM, IN A SANDBOX (cutbox-rows.mjs): the forced cells as the released guide's own fill.sh prints them over the translation 8857306c97cae6f8… (all of the seat's roots in one cut). By AI agents, Wed Nov 11 2026. No macro, syntax, notation, axiom, sorry.
-/
import Derived.Test.YtbnhbfemoaokkaaDoorChecked
import GoSem.Claim
import GoSem.ClaimJoined
import GoSem.ClaimMapViews
import Derived.JoinedTies
import Derived.KernelRfl
namespace Go.Proofs.YtbnhbfemoaokkaaDoor
/- THE CELL 'sum', in the pinned program and in every row, IS THE sha256 OF THE DUMP (.gsa) THAT YtbnhbfemoaokkaaDoorProg.lean LOADS. Nothing in Lean hashes anything: it is a label: what it is worth is what the hold of that sum in a sandbox is worth. -/
noncomputable def Tryd.pinned : Pinned := { name := "ytbnhbfemoaokkaadoor", sum := "8857306c97cae6f81b58e8a47613dca82e2bfd938393747445ee1f91deb3c316", checked := Tryd.checked }
namespace Rows
def none {H : Type} : Left H := { results := [], args := [] }

/- WHAT THE LISTED PACKAGE-LEVEL VARIABLES READ AS WHEN THE CALL BEGINS. Each datum BY PROGRAM (the guide's laid-datum.mjs) off the statement by which the dump's own 'gosem.cut.vars' lays the variable. In a bare row this is a premise. The card (YtbnhbfemoaokkaaDoorCards.lean) ties it to the program's text. -/
def laid_wakeman_civil_lengths {H : Type} : DataW H := .agg [.lit (.int .i64 31), .lit (.int .i64 28), .lit (.int .i64 31), .lit (.int .i64 30), .lit (.int .i64 31), .lit (.int .i64 30), .lit (.int .i64 31), .lit (.int .i64 31), .lit (.int .i64 30), .lit (.int .i64 31), .lit (.int .i64 30), .lit (.int .i64 31)]

/-- 'wakemanlaw03.ZoneTexts': WHATEVER THE INPUT: true; the input reads as it did. -/
def zoneTextsSpec : ChangeSpec := { name := "zoneTexts", fn := fun _ => fun
  | [d1, d2] => { results := [.lit (.bool true)], args := [d1, d2] }
  | _ => none }
def zoneTextsRow : OpenClaim := { program := "ytbnhbfemoaokkaadoor", sum := "8857306c97cae6f81b58e8a47613dca82e2bfd938393747445ee1f91deb3c316", func := "wakeman/wakemanlaw03.ZoneTexts", spec := "zoneTexts", named := ["wakeman/civil.lengths"], apart := false, laid := [("wakeman/civil.lengths", laid_wakeman_civil_lengths)] }
def ZoneTextsSaid : Prop := zoneTextsRow.holds Tryd.pinned (OpenSpec.ofChange zoneTextsSpec)

/-- ITS FALSE NEIGHBOUR: 'it returns false'. Refute it at one input. -/
def zoneTextsWrong : ChangeSpec := { name := "zoneTexts", fn := fun _ => fun
  | [d1, d2] => { results := [.lit (.bool false)], args := [d1, d2] }
  | _ => none }
def ZoneTextsWrongFalsely : Prop := zoneTextsRow.holds Tryd.pinned (OpenSpec.ofChange zoneTextsWrong)

/-- 'wakemanlaw03.ZoneLocals': WHATEVER THE INPUT: true; the input reads as it did. -/
def zoneLocalsSpec : ChangeSpec := { name := "zoneLocals", fn := fun _ => fun
  | [d1, d2] => { results := [.lit (.bool true)], args := [d1, d2] }
  | _ => none }
def zoneLocalsRow : OpenClaim := { program := "ytbnhbfemoaokkaadoor", sum := "8857306c97cae6f81b58e8a47613dca82e2bfd938393747445ee1f91deb3c316", func := "wakeman/wakemanlaw03.ZoneLocals", spec := "zoneLocals", named := ["wakeman/civil.lengths"], apart := false, laid := [("wakeman/civil.lengths", laid_wakeman_civil_lengths)] }
def ZoneLocalsSaid : Prop := zoneLocalsRow.holds Tryd.pinned (OpenSpec.ofChange zoneLocalsSpec)

/-- ITS FALSE NEIGHBOUR: 'it returns false'. Refute it at one input. -/
def zoneLocalsWrong : ChangeSpec := { name := "zoneLocals", fn := fun _ => fun
  | [d1, d2] => { results := [.lit (.bool false)], args := [d1, d2] }
  | _ => none }
def ZoneLocalsWrongFalsely : Prop := zoneLocalsRow.holds Tryd.pinned (OpenSpec.ofChange zoneLocalsWrong)

/-- 'wakemanlaw03.ZoneBacks': WHATEVER THE INPUT: true; the input reads as it did. -/
def zoneBacksSpec : ChangeSpec := { name := "zoneBacks", fn := fun _ => fun
  | [d1, d2] => { results := [.lit (.bool true)], args := [d1, d2] }
  | _ => none }
def zoneBacksRow : OpenClaim := { program := "ytbnhbfemoaokkaadoor", sum := "8857306c97cae6f81b58e8a47613dca82e2bfd938393747445ee1f91deb3c316", func := "wakeman/wakemanlaw03.ZoneBacks", spec := "zoneBacks", named := ["wakeman/civil.lengths"], apart := false, laid := [("wakeman/civil.lengths", laid_wakeman_civil_lengths)] }
def ZoneBacksSaid : Prop := zoneBacksRow.holds Tryd.pinned (OpenSpec.ofChange zoneBacksSpec)

/-- ITS FALSE NEIGHBOUR: 'it returns false'. Refute it at one input. -/
def zoneBacksWrong : ChangeSpec := { name := "zoneBacks", fn := fun _ => fun
  | [d1, d2] => { results := [.lit (.bool false)], args := [d1, d2] }
  | _ => none }
def ZoneBacksWrongFalsely : Prop := zoneBacksRow.holds Tryd.pinned (OpenSpec.ofChange zoneBacksWrong)

/-- 'wakemanlaw03.ZoneSames': WHATEVER THE INPUT: true; the input reads as it did. -/
def zoneSamesSpec : ChangeSpec := { name := "zoneSames", fn := fun _ => fun
  | [d1, d2, d3] => { results := [.lit (.bool true)], args := [d1, d2, d3] }
  | _ => none }
def zoneSamesRow : OpenClaim := { program := "ytbnhbfemoaokkaadoor", sum := "8857306c97cae6f81b58e8a47613dca82e2bfd938393747445ee1f91deb3c316", func := "wakeman/wakemanlaw03.ZoneSames", spec := "zoneSames", named := ["wakeman/civil.lengths"], apart := false, laid := [("wakeman/civil.lengths", laid_wakeman_civil_lengths)] }
def ZoneSamesSaid : Prop := zoneSamesRow.holds Tryd.pinned (OpenSpec.ofChange zoneSamesSpec)

/-- ITS FALSE NEIGHBOUR: 'it returns false'. Refute it at one input. -/
def zoneSamesWrong : ChangeSpec := { name := "zoneSames", fn := fun _ => fun
  | [d1, d2, d3] => { results := [.lit (.bool false)], args := [d1, d2, d3] }
  | _ => none }
def ZoneSamesWrongFalsely : Prop := zoneSamesRow.holds Tryd.pinned (OpenSpec.ofChange zoneSamesWrong)

/-- 'wakemanlaw03.ZoneReturns': WHATEVER THE INPUT: true; the input reads as it did. -/
def zoneReturnsSpec : ChangeSpec := { name := "zoneReturns", fn := fun _ => fun
  | [d1, d2, d3] => { results := [.lit (.bool true)], args := [d1, d2, d3] }
  | _ => none }
def zoneReturnsRow : OpenClaim := { program := "ytbnhbfemoaokkaadoor", sum := "8857306c97cae6f81b58e8a47613dca82e2bfd938393747445ee1f91deb3c316", func := "wakeman/wakemanlaw03.ZoneReturns", spec := "zoneReturns", named := ["wakeman/civil.lengths"], apart := false, laid := [("wakeman/civil.lengths", laid_wakeman_civil_lengths)] }
def ZoneReturnsSaid : Prop := zoneReturnsRow.holds Tryd.pinned (OpenSpec.ofChange zoneReturnsSpec)

/-- ITS FALSE NEIGHBOUR: 'it returns false'. Refute it at one input. -/
def zoneReturnsWrong : ChangeSpec := { name := "zoneReturns", fn := fun _ => fun
  | [d1, d2, d3] => { results := [.lit (.bool false)], args := [d1, d2, d3] }
  | _ => none }
def ZoneReturnsWrongFalsely : Prop := zoneReturnsRow.holds Tryd.pinned (OpenSpec.ofChange zoneReturnsWrong)

/-- 'wakemanlaw03.ZoneShifts': WHATEVER THE INPUT: true; the input reads as it did. -/
def zoneShiftsSpec : ChangeSpec := { name := "zoneShifts", fn := fun _ => fun
  | [d1, d2] => { results := [.lit (.bool true)], args := [d1, d2] }
  | _ => none }
def zoneShiftsRow : OpenClaim := { program := "ytbnhbfemoaokkaadoor", sum := "8857306c97cae6f81b58e8a47613dca82e2bfd938393747445ee1f91deb3c316", func := "wakeman/wakemanlaw03.ZoneShifts", spec := "zoneShifts", named := ["wakeman/civil.lengths"], apart := false, laid := [("wakeman/civil.lengths", laid_wakeman_civil_lengths)] }
def ZoneShiftsSaid : Prop := zoneShiftsRow.holds Tryd.pinned (OpenSpec.ofChange zoneShiftsSpec)

/-- ITS FALSE NEIGHBOUR: 'it returns false'. Refute it at one input. -/
def zoneShiftsWrong : ChangeSpec := { name := "zoneShifts", fn := fun _ => fun
  | [d1, d2] => { results := [.lit (.bool false)], args := [d1, d2] }
  | _ => none }
def ZoneShiftsWrongFalsely : Prop := zoneShiftsRow.holds Tryd.pinned (OpenSpec.ofChange zoneShiftsWrong)

/-- 'wakemanlaw03.ZoneDays': WHATEVER THE INPUT: true; the input reads as it did. -/
def zoneDaysSpec : ChangeSpec := { name := "zoneDays", fn := fun _ => fun
  | [d1, d2] => { results := [.lit (.bool true)], args := [d1, d2] }
  | _ => none }
def zoneDaysRow : OpenClaim := { program := "ytbnhbfemoaokkaadoor", sum := "8857306c97cae6f81b58e8a47613dca82e2bfd938393747445ee1f91deb3c316", func := "wakeman/wakemanlaw03.ZoneDays", spec := "zoneDays", named := ["wakeman/civil.lengths"], apart := false, laid := [("wakeman/civil.lengths", laid_wakeman_civil_lengths)] }
def ZoneDaysSaid : Prop := zoneDaysRow.holds Tryd.pinned (OpenSpec.ofChange zoneDaysSpec)

/-- ITS FALSE NEIGHBOUR: 'it returns false'. Refute it at one input. -/
def zoneDaysWrong : ChangeSpec := { name := "zoneDays", fn := fun _ => fun
  | [d1, d2] => { results := [.lit (.bool false)], args := [d1, d2] }
  | _ => none }
def ZoneDaysWrongFalsely : Prop := zoneDaysRow.holds Tryd.pinned (OpenSpec.ofChange zoneDaysWrong)

/-- 'wakemanlaw03.ZoneSplits': WHATEVER THE INPUT: true; the input reads as it did. -/
def zoneSplitsSpec : ChangeSpec := { name := "zoneSplits", fn := fun _ => fun
  | [d1, d2, d3] => { results := [.lit (.bool true)], args := [d1, d2, d3] }
  | _ => none }
def zoneSplitsRow : OpenClaim := { program := "ytbnhbfemoaokkaadoor", sum := "8857306c97cae6f81b58e8a47613dca82e2bfd938393747445ee1f91deb3c316", func := "wakeman/wakemanlaw03.ZoneSplits", spec := "zoneSplits", named := ["wakeman/civil.lengths"], apart := false, laid := [("wakeman/civil.lengths", laid_wakeman_civil_lengths)] }
def ZoneSplitsSaid : Prop := zoneSplitsRow.holds Tryd.pinned (OpenSpec.ofChange zoneSplitsSpec)

/-- ITS FALSE NEIGHBOUR: 'it returns false'. Refute it at one input. -/
def zoneSplitsWrong : ChangeSpec := { name := "zoneSplits", fn := fun _ => fun
  | [d1, d2, d3] => { results := [.lit (.bool false)], args := [d1, d2, d3] }
  | _ => none }
def ZoneSplitsWrongFalsely : Prop := zoneSplitsRow.holds Tryd.pinned (OpenSpec.ofChange zoneSplitsWrong)

/-- 'wakemanlaw03.ZoneSpells': WHATEVER THE INPUT: true; the input reads as it did. -/
def zoneSpellsSpec : ChangeSpec := { name := "zoneSpells", fn := fun _ => fun
  | [d1, d2] => { results := [.lit (.bool true)], args := [d1, d2] }
  | _ => none }
def zoneSpellsRow : OpenClaim := { program := "ytbnhbfemoaokkaadoor", sum := "8857306c97cae6f81b58e8a47613dca82e2bfd938393747445ee1f91deb3c316", func := "wakeman/wakemanlaw03.ZoneSpells", spec := "zoneSpells", named := ["wakeman/civil.lengths"], apart := false, laid := [("wakeman/civil.lengths", laid_wakeman_civil_lengths)] }
def ZoneSpellsSaid : Prop := zoneSpellsRow.holds Tryd.pinned (OpenSpec.ofChange zoneSpellsSpec)

/-- ITS FALSE NEIGHBOUR: 'it returns false'. Refute it at one input. -/
def zoneSpellsWrong : ChangeSpec := { name := "zoneSpells", fn := fun _ => fun
  | [d1, d2] => { results := [.lit (.bool false)], args := [d1, d2] }
  | _ => none }
def ZoneSpellsWrongFalsely : Prop := zoneSpellsRow.holds Tryd.pinned (OpenSpec.ofChange zoneSpellsWrong)

/-- 'wakemanlaw03.ZoneEnds': WHATEVER THE INPUT: true; the input reads as it did. -/
def zoneEndsSpec : ChangeSpec := { name := "zoneEnds", fn := fun _ => fun
  | [] => { results := [.lit (.bool true)], args := [] }
  | _ => none }
def zoneEndsRow : OpenClaim := { program := "ytbnhbfemoaokkaadoor", sum := "8857306c97cae6f81b58e8a47613dca82e2bfd938393747445ee1f91deb3c316", func := "wakeman/wakemanlaw03.ZoneEnds", spec := "zoneEnds", named := ["wakeman/civil.lengths"], apart := false, laid := [("wakeman/civil.lengths", laid_wakeman_civil_lengths)] }
def ZoneEndsSaid : Prop := zoneEndsRow.holds Tryd.pinned (OpenSpec.ofChange zoneEndsSpec)

/-- ITS FALSE NEIGHBOUR: 'it returns false'. Refute it at one input. -/
def zoneEndsWrong : ChangeSpec := { name := "zoneEnds", fn := fun _ => fun
  | [] => { results := [.lit (.bool false)], args := [] }
  | _ => none }
def ZoneEndsWrongFalsely : Prop := zoneEndsRow.holds Tryd.pinned (OpenSpec.ofChange zoneEndsWrong)

/- THE SECOND FORM. 'bulk': how many values and letters a reading holds, each counted each time it is reached (what is shared counts as often as it is met; a slice's spare places count too). A statement '..UptoSaid' is the law's where the arguments, and the package variables that the reading takes, are together of bulk at most 1048576: NARROWER than '..Said'. Prove '..Said' where nothing that the law and all that it calls make is longer than what came in: it says more and counts as full. Else prove '..UptoSaid'. A law counts once. -/
mutual
def uptoBulk {H : Type} : DataW H → Nat
  | .lit (.string bytes) => bytes.length + 1
  | .lit _ => 1
  | .nil => 1
  | .ptr d => uptoBulk d + 1
  | .slice elems spare => uptoBulkAll elems + uptoBulkAll spare + 1
  | .agg parts => uptoBulkAll parts + 1
  | .iface _ d => uptoBulk d + 1
  | .map entries => uptoBulkEntries entries + 1
  | .held _ => 1
def uptoBulkAll {H : Type} : List (DataW H) → Nat
  | [] => 0
  | d :: r => uptoBulk d + uptoBulkAll r
def uptoBulkEntries {H : Type} : List (Lit × DataW H) → Nat
  | [] => 0
  | x :: r => uptoBulkEntry x + uptoBulkEntries r
def uptoBulkEntry {H : Type} : Lit × DataW H → Nat
  | (.string bytes, d) => bytes.length + uptoBulk d + 1
  | (_, d) => uptoBulk d + 1
 end
def uptoSmall : (H : Type) → List (DataW H) → Bool := fun _ ds => decide (uptoBulkAll ds ≤ 1048576)
def OpenSpec.upto (s : _root_.Go.ChangeSpec) : _root_.Go.OpenSpec := { _root_.Go.OpenSpec.ofChange s with cond := some uptoSmall }

/-- 'wakemanlaw03.ZoneTexts', WHERE WHAT IT READS IS OF BULK AT MOST 1048576: true; the input reads as it did. -/
def zoneTextsUptoRow : OpenClaim := { program := "ytbnhbfemoaokkaadoor", sum := "8857306c97cae6f81b58e8a47613dca82e2bfd938393747445ee1f91deb3c316", func := "wakeman/wakemanlaw03.ZoneTexts", spec := "zoneTexts", named := ["wakeman/civil.lengths"], apart := false, laid := [("wakeman/civil.lengths", laid_wakeman_civil_lengths)], narrowed := true }
def ZoneTextsUptoSaid : Prop := zoneTextsUptoRow.holds Tryd.pinned (OpenSpec.upto zoneTextsSpec)

/-- 'wakemanlaw03.ZoneLocals', WHERE WHAT IT READS IS OF BULK AT MOST 1048576: true; the input reads as it did. -/
def zoneLocalsUptoRow : OpenClaim := { program := "ytbnhbfemoaokkaadoor", sum := "8857306c97cae6f81b58e8a47613dca82e2bfd938393747445ee1f91deb3c316", func := "wakeman/wakemanlaw03.ZoneLocals", spec := "zoneLocals", named := ["wakeman/civil.lengths"], apart := false, laid := [("wakeman/civil.lengths", laid_wakeman_civil_lengths)], narrowed := true }
def ZoneLocalsUptoSaid : Prop := zoneLocalsUptoRow.holds Tryd.pinned (OpenSpec.upto zoneLocalsSpec)

/-- 'wakemanlaw03.ZoneBacks', WHERE WHAT IT READS IS OF BULK AT MOST 1048576: true; the input reads as it did. -/
def zoneBacksUptoRow : OpenClaim := { program := "ytbnhbfemoaokkaadoor", sum := "8857306c97cae6f81b58e8a47613dca82e2bfd938393747445ee1f91deb3c316", func := "wakeman/wakemanlaw03.ZoneBacks", spec := "zoneBacks", named := ["wakeman/civil.lengths"], apart := false, laid := [("wakeman/civil.lengths", laid_wakeman_civil_lengths)], narrowed := true }
def ZoneBacksUptoSaid : Prop := zoneBacksUptoRow.holds Tryd.pinned (OpenSpec.upto zoneBacksSpec)

/-- 'wakemanlaw03.ZoneSames', WHERE WHAT IT READS IS OF BULK AT MOST 1048576: true; the input reads as it did. -/
def zoneSamesUptoRow : OpenClaim := { program := "ytbnhbfemoaokkaadoor", sum := "8857306c97cae6f81b58e8a47613dca82e2bfd938393747445ee1f91deb3c316", func := "wakeman/wakemanlaw03.ZoneSames", spec := "zoneSames", named := ["wakeman/civil.lengths"], apart := false, laid := [("wakeman/civil.lengths", laid_wakeman_civil_lengths)], narrowed := true }
def ZoneSamesUptoSaid : Prop := zoneSamesUptoRow.holds Tryd.pinned (OpenSpec.upto zoneSamesSpec)

/-- 'wakemanlaw03.ZoneReturns', WHERE WHAT IT READS IS OF BULK AT MOST 1048576: true; the input reads as it did. -/
def zoneReturnsUptoRow : OpenClaim := { program := "ytbnhbfemoaokkaadoor", sum := "8857306c97cae6f81b58e8a47613dca82e2bfd938393747445ee1f91deb3c316", func := "wakeman/wakemanlaw03.ZoneReturns", spec := "zoneReturns", named := ["wakeman/civil.lengths"], apart := false, laid := [("wakeman/civil.lengths", laid_wakeman_civil_lengths)], narrowed := true }
def ZoneReturnsUptoSaid : Prop := zoneReturnsUptoRow.holds Tryd.pinned (OpenSpec.upto zoneReturnsSpec)

/-- 'wakemanlaw03.ZoneShifts', WHERE WHAT IT READS IS OF BULK AT MOST 1048576: true; the input reads as it did. -/
def zoneShiftsUptoRow : OpenClaim := { program := "ytbnhbfemoaokkaadoor", sum := "8857306c97cae6f81b58e8a47613dca82e2bfd938393747445ee1f91deb3c316", func := "wakeman/wakemanlaw03.ZoneShifts", spec := "zoneShifts", named := ["wakeman/civil.lengths"], apart := false, laid := [("wakeman/civil.lengths", laid_wakeman_civil_lengths)], narrowed := true }
def ZoneShiftsUptoSaid : Prop := zoneShiftsUptoRow.holds Tryd.pinned (OpenSpec.upto zoneShiftsSpec)

/-- 'wakemanlaw03.ZoneDays', WHERE WHAT IT READS IS OF BULK AT MOST 1048576: true; the input reads as it did. -/
def zoneDaysUptoRow : OpenClaim := { program := "ytbnhbfemoaokkaadoor", sum := "8857306c97cae6f81b58e8a47613dca82e2bfd938393747445ee1f91deb3c316", func := "wakeman/wakemanlaw03.ZoneDays", spec := "zoneDays", named := ["wakeman/civil.lengths"], apart := false, laid := [("wakeman/civil.lengths", laid_wakeman_civil_lengths)], narrowed := true }
def ZoneDaysUptoSaid : Prop := zoneDaysUptoRow.holds Tryd.pinned (OpenSpec.upto zoneDaysSpec)

/-- 'wakemanlaw03.ZoneSplits', WHERE WHAT IT READS IS OF BULK AT MOST 1048576: true; the input reads as it did. -/
def zoneSplitsUptoRow : OpenClaim := { program := "ytbnhbfemoaokkaadoor", sum := "8857306c97cae6f81b58e8a47613dca82e2bfd938393747445ee1f91deb3c316", func := "wakeman/wakemanlaw03.ZoneSplits", spec := "zoneSplits", named := ["wakeman/civil.lengths"], apart := false, laid := [("wakeman/civil.lengths", laid_wakeman_civil_lengths)], narrowed := true }
def ZoneSplitsUptoSaid : Prop := zoneSplitsUptoRow.holds Tryd.pinned (OpenSpec.upto zoneSplitsSpec)

/-- 'wakemanlaw03.ZoneSpells', WHERE WHAT IT READS IS OF BULK AT MOST 1048576: true; the input reads as it did. -/
def zoneSpellsUptoRow : OpenClaim := { program := "ytbnhbfemoaokkaadoor", sum := "8857306c97cae6f81b58e8a47613dca82e2bfd938393747445ee1f91deb3c316", func := "wakeman/wakemanlaw03.ZoneSpells", spec := "zoneSpells", named := ["wakeman/civil.lengths"], apart := false, laid := [("wakeman/civil.lengths", laid_wakeman_civil_lengths)], narrowed := true }
def ZoneSpellsUptoSaid : Prop := zoneSpellsUptoRow.holds Tryd.pinned (OpenSpec.upto zoneSpellsSpec)

/-- 'wakemanlaw03.ZoneEnds', WHERE WHAT IT READS IS OF BULK AT MOST 1048576: true; the input reads as it did. -/
def zoneEndsUptoRow : OpenClaim := { program := "ytbnhbfemoaokkaadoor", sum := "8857306c97cae6f81b58e8a47613dca82e2bfd938393747445ee1f91deb3c316", func := "wakeman/wakemanlaw03.ZoneEnds", spec := "zoneEnds", named := ["wakeman/civil.lengths"], apart := false, laid := [("wakeman/civil.lengths", laid_wakeman_civil_lengths)], narrowed := true }
def ZoneEndsUptoSaid : Prop := zoneEndsUptoRow.holds Tryd.pinned (OpenSpec.upto zoneEndsSpec)

end Rows
end Go.Proofs.YtbnhbfemoaokkaaDoor
