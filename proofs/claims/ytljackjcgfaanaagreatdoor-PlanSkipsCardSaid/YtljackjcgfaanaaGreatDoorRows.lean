/-
  NARROWER THAN 'FOR EVERY INPUT', by the rows' own cells (each row's printed sentence says how): PlanChecks: laid · PlanLists: laid · PlanSames: laid · PlanDues: laid · PlanNearest: laid · PlanSkips: laid · PlanSums: laid · PlanNone: laid · PlanDue: laid · PlanKnown: laid.
  DERIVED. THE GIVEN ROWS OF THIS SEAT. 10 by the template 'for every input the law returns true; each argument reads behind the call as it read before'; 0 by the template 'total and deterministic' (their statements: YtljackjcgfaanaaGreatDoorTotals.lean).
  GIVEN WITH THE SEED: the statements are not yours to turn. If you find one false, say at which input.
  Laid BY PROGRAM, IN A SANDBOX (cutbox-rows.mjs): the forced cells as the released guide's own fill.sh prints them over the translation 908f718a376e3d7b… (all of the seat's roots in one cut). By AI agents, Wed Nov 11 2026. No macro, syntax, notation, axiom, sorry.
-/
import Derived.Test.YtljackjcgfaanaaGreatDoorChecked
import GoSem.Claim
import GoSem.ClaimJoined
import GoSem.ClaimMapViews
import Derived.JoinedTies
import Derived.KernelRfl
namespace Go.Proofs.YtljackjcgfaanaaGreatDoor
/- THE CELL 'sum', in the pinned program and in every row, IS THE sha256 OF THE DUMP (.gsa) THAT YtljackjcgfaanaaGreatDoorProg.lean LOADS. Nothing in Lean hashes anything: it is a label: what it is worth is what the hold of that sum in a sandbox is worth. -/
noncomputable def Tryz.pinned : Pinned := { name := "ytljackjcgfaanaagreatdoor", sum := "908f718a376e3d7bc1e212ac093508a2dacb60a168787b82fdf1de187b5b5df4", checked := Tryz.checked }
namespace Rows
def none {H : Type} : Left H := { results := [], args := [] }

/- WHAT THE LISTED PACKAGE-LEVEL VARIABLES READ AS WHEN THE CALL BEGINS. Each datum BY PROGRAM (the guide's laid-datum.mjs) off the statement by which the dump's own 'gosem.cut.vars' lays the variable. In a bare row this is a premise. The card (YtljackjcgfaanaaGreatDoorCards.lean) ties it to the program's text. -/
def laid_math_bits_deBruijn64tab {H : Type} : DataW H := .agg [.lit (.int .u8 0), .lit (.int .u8 1), .lit (.int .u8 56), .lit (.int .u8 2), .lit (.int .u8 57), .lit (.int .u8 49), .lit (.int .u8 28), .lit (.int .u8 3), .lit (.int .u8 61), .lit (.int .u8 58), .lit (.int .u8 42), .lit (.int .u8 50), .lit (.int .u8 38), .lit (.int .u8 29), .lit (.int .u8 17), .lit (.int .u8 4), .lit (.int .u8 62), .lit (.int .u8 47), .lit (.int .u8 59), .lit (.int .u8 36), .lit (.int .u8 45), .lit (.int .u8 43), .lit (.int .u8 51), .lit (.int .u8 22), .lit (.int .u8 53), .lit (.int .u8 39), .lit (.int .u8 33), .lit (.int .u8 30), .lit (.int .u8 24), .lit (.int .u8 18), .lit (.int .u8 12), .lit (.int .u8 5), .lit (.int .u8 63), .lit (.int .u8 55), .lit (.int .u8 48), .lit (.int .u8 27), .lit (.int .u8 60), .lit (.int .u8 41), .lit (.int .u8 37), .lit (.int .u8 16), .lit (.int .u8 46), .lit (.int .u8 35), .lit (.int .u8 44), .lit (.int .u8 21), .lit (.int .u8 52), .lit (.int .u8 32), .lit (.int .u8 23), .lit (.int .u8 11), .lit (.int .u8 54), .lit (.int .u8 26), .lit (.int .u8 40), .lit (.int .u8 15), .lit (.int .u8 34), .lit (.int .u8 20), .lit (.int .u8 31), .lit (.int .u8 10), .lit (.int .u8 25), .lit (.int .u8 14), .lit (.int .u8 19), .lit (.int .u8 9), .lit (.int .u8 13), .lit (.int .u8 8), .lit (.int .u8 7), .lit (.int .u8 6)]
def laid_wakeman_civil_lengths {H : Type} : DataW H := .agg [.lit (.int .i64 31), .lit (.int .i64 28), .lit (.int .i64 31), .lit (.int .i64 30), .lit (.int .i64 31), .lit (.int .i64 30), .lit (.int .i64 31), .lit (.int .i64 31), .lit (.int .i64 30), .lit (.int .i64 31), .lit (.int .i64 30), .lit (.int .i64 31)]

/-- 'wakemanlaw12.PlanChecks': WHATEVER THE INPUT: true; the input reads as it did. -/
def planChecksSpec : ChangeSpec := { name := "planChecks", fn := fun _ => fun
  | [d1, d2] => { results := [.lit (.bool true)], args := [d1, d2] }
  | _ => none }
def planChecksRow : OpenClaim := { program := "ytljackjcgfaanaagreatdoor", sum := "908f718a376e3d7bc1e212ac093508a2dacb60a168787b82fdf1de187b5b5df4", func := "wakeman/wakemanlaw12.PlanChecks", spec := "planChecks", unfollowed := true, recurses := true, named := ["math/bits.deBruijn64tab", "wakeman/civil.lengths"], apart := false, laid := [("math/bits.deBruijn64tab", laid_math_bits_deBruijn64tab), ("wakeman/civil.lengths", laid_wakeman_civil_lengths)] }
def PlanChecksSaid : Prop := planChecksRow.holds Tryz.pinned (OpenSpec.ofChange planChecksSpec)

/-- ITS FALSE NEIGHBOUR: 'it returns false'. Refute it at one input. -/
def planChecksWrong : ChangeSpec := { name := "planChecks", fn := fun _ => fun
  | [d1, d2] => { results := [.lit (.bool false)], args := [d1, d2] }
  | _ => none }
def PlanChecksWrongFalsely : Prop := planChecksRow.holds Tryz.pinned (OpenSpec.ofChange planChecksWrong)

/-- 'wakemanlaw12.PlanLists': WHATEVER THE INPUT: true; the input reads as it did. -/
def planListsSpec : ChangeSpec := { name := "planLists", fn := fun _ => fun
  | [d1, d2, d3, d4] => { results := [.lit (.bool true)], args := [d1, d2, d3, d4] }
  | _ => none }
def planListsRow : OpenClaim := { program := "ytljackjcgfaanaagreatdoor", sum := "908f718a376e3d7bc1e212ac093508a2dacb60a168787b82fdf1de187b5b5df4", func := "wakeman/wakemanlaw12.PlanLists", spec := "planLists", unfollowed := true, recurses := true, named := ["math/bits.deBruijn64tab", "wakeman/civil.lengths"], apart := false, laid := [("math/bits.deBruijn64tab", laid_math_bits_deBruijn64tab), ("wakeman/civil.lengths", laid_wakeman_civil_lengths)] }
def PlanListsSaid : Prop := planListsRow.holds Tryz.pinned (OpenSpec.ofChange planListsSpec)

/-- ITS FALSE NEIGHBOUR: 'it returns false'. Refute it at one input. -/
def planListsWrong : ChangeSpec := { name := "planLists", fn := fun _ => fun
  | [d1, d2, d3, d4] => { results := [.lit (.bool false)], args := [d1, d2, d3, d4] }
  | _ => none }
def PlanListsWrongFalsely : Prop := planListsRow.holds Tryz.pinned (OpenSpec.ofChange planListsWrong)

/-- 'wakemanlaw12.PlanSames': WHATEVER THE INPUT: true; the input reads as it did. -/
def planSamesSpec : ChangeSpec := { name := "planSames", fn := fun _ => fun
  | [d1, d2] => { results := [.lit (.bool true)], args := [d1, d2] }
  | _ => none }
def planSamesRow : OpenClaim := { program := "ytljackjcgfaanaagreatdoor", sum := "908f718a376e3d7bc1e212ac093508a2dacb60a168787b82fdf1de187b5b5df4", func := "wakeman/wakemanlaw12.PlanSames", spec := "planSames", unfollowed := true, recurses := true, named := ["math/bits.deBruijn64tab", "wakeman/civil.lengths"], apart := false, laid := [("math/bits.deBruijn64tab", laid_math_bits_deBruijn64tab), ("wakeman/civil.lengths", laid_wakeman_civil_lengths)] }
def PlanSamesSaid : Prop := planSamesRow.holds Tryz.pinned (OpenSpec.ofChange planSamesSpec)

/-- ITS FALSE NEIGHBOUR: 'it returns false'. Refute it at one input. -/
def planSamesWrong : ChangeSpec := { name := "planSames", fn := fun _ => fun
  | [d1, d2] => { results := [.lit (.bool false)], args := [d1, d2] }
  | _ => none }
def PlanSamesWrongFalsely : Prop := planSamesRow.holds Tryz.pinned (OpenSpec.ofChange planSamesWrong)

/-- 'wakemanlaw12.PlanDues': WHATEVER THE INPUT: true; the input reads as it did. -/
def planDuesSpec : ChangeSpec := { name := "planDues", fn := fun _ => fun
  | [d1, d2] => { results := [.lit (.bool true)], args := [d1, d2] }
  | _ => none }
def planDuesRow : OpenClaim := { program := "ytljackjcgfaanaagreatdoor", sum := "908f718a376e3d7bc1e212ac093508a2dacb60a168787b82fdf1de187b5b5df4", func := "wakeman/wakemanlaw12.PlanDues", spec := "planDues", unfollowed := true, recurses := true, named := ["math/bits.deBruijn64tab", "wakeman/civil.lengths"], apart := false, laid := [("math/bits.deBruijn64tab", laid_math_bits_deBruijn64tab), ("wakeman/civil.lengths", laid_wakeman_civil_lengths)] }
def PlanDuesSaid : Prop := planDuesRow.holds Tryz.pinned (OpenSpec.ofChange planDuesSpec)

/-- ITS FALSE NEIGHBOUR: 'it returns false'. Refute it at one input. -/
def planDuesWrong : ChangeSpec := { name := "planDues", fn := fun _ => fun
  | [d1, d2] => { results := [.lit (.bool false)], args := [d1, d2] }
  | _ => none }
def PlanDuesWrongFalsely : Prop := planDuesRow.holds Tryz.pinned (OpenSpec.ofChange planDuesWrong)

/-- 'wakemanlaw12.PlanNearest': WHATEVER THE INPUT: true; the input reads as it did. -/
def planNearestSpec : ChangeSpec := { name := "planNearest", fn := fun _ => fun
  | [d1, d2] => { results := [.lit (.bool true)], args := [d1, d2] }
  | _ => none }
def planNearestRow : OpenClaim := { program := "ytljackjcgfaanaagreatdoor", sum := "908f718a376e3d7bc1e212ac093508a2dacb60a168787b82fdf1de187b5b5df4", func := "wakeman/wakemanlaw12.PlanNearest", spec := "planNearest", unfollowed := true, recurses := true, named := ["math/bits.deBruijn64tab", "wakeman/civil.lengths"], apart := false, laid := [("math/bits.deBruijn64tab", laid_math_bits_deBruijn64tab), ("wakeman/civil.lengths", laid_wakeman_civil_lengths)] }
def PlanNearestSaid : Prop := planNearestRow.holds Tryz.pinned (OpenSpec.ofChange planNearestSpec)

/-- ITS FALSE NEIGHBOUR: 'it returns false'. Refute it at one input. -/
def planNearestWrong : ChangeSpec := { name := "planNearest", fn := fun _ => fun
  | [d1, d2] => { results := [.lit (.bool false)], args := [d1, d2] }
  | _ => none }
def PlanNearestWrongFalsely : Prop := planNearestRow.holds Tryz.pinned (OpenSpec.ofChange planNearestWrong)

/-- 'wakemanlaw12.PlanSkips': WHATEVER THE INPUT: true; the input reads as it did. -/
def planSkipsSpec : ChangeSpec := { name := "planSkips", fn := fun _ => fun
  | [d1, d2, d3] => { results := [.lit (.bool true)], args := [d1, d2, d3] }
  | _ => none }
def planSkipsRow : OpenClaim := { program := "ytljackjcgfaanaagreatdoor", sum := "908f718a376e3d7bc1e212ac093508a2dacb60a168787b82fdf1de187b5b5df4", func := "wakeman/wakemanlaw12.PlanSkips", spec := "planSkips", unfollowed := true, recurses := true, named := ["math/bits.deBruijn64tab", "wakeman/civil.lengths"], apart := false, laid := [("math/bits.deBruijn64tab", laid_math_bits_deBruijn64tab), ("wakeman/civil.lengths", laid_wakeman_civil_lengths)] }
def PlanSkipsSaid : Prop := planSkipsRow.holds Tryz.pinned (OpenSpec.ofChange planSkipsSpec)

/-- ITS FALSE NEIGHBOUR: 'it returns false'. Refute it at one input. -/
def planSkipsWrong : ChangeSpec := { name := "planSkips", fn := fun _ => fun
  | [d1, d2, d3] => { results := [.lit (.bool false)], args := [d1, d2, d3] }
  | _ => none }
def PlanSkipsWrongFalsely : Prop := planSkipsRow.holds Tryz.pinned (OpenSpec.ofChange planSkipsWrong)

/-- 'wakemanlaw12.PlanSums': WHATEVER THE INPUT: true; the input reads as it did. -/
def planSumsSpec : ChangeSpec := { name := "planSums", fn := fun _ => fun
  | [d1, d2, d3, d4] => { results := [.lit (.bool true)], args := [d1, d2, d3, d4] }
  | _ => none }
def planSumsRow : OpenClaim := { program := "ytljackjcgfaanaagreatdoor", sum := "908f718a376e3d7bc1e212ac093508a2dacb60a168787b82fdf1de187b5b5df4", func := "wakeman/wakemanlaw12.PlanSums", spec := "planSums", unfollowed := true, recurses := true, named := ["math/bits.deBruijn64tab", "wakeman/civil.lengths"], apart := false, laid := [("math/bits.deBruijn64tab", laid_math_bits_deBruijn64tab), ("wakeman/civil.lengths", laid_wakeman_civil_lengths)] }
def PlanSumsSaid : Prop := planSumsRow.holds Tryz.pinned (OpenSpec.ofChange planSumsSpec)

/-- ITS FALSE NEIGHBOUR: 'it returns false'. Refute it at one input. -/
def planSumsWrong : ChangeSpec := { name := "planSums", fn := fun _ => fun
  | [d1, d2, d3, d4] => { results := [.lit (.bool false)], args := [d1, d2, d3, d4] }
  | _ => none }
def PlanSumsWrongFalsely : Prop := planSumsRow.holds Tryz.pinned (OpenSpec.ofChange planSumsWrong)

/-- 'wakemanlaw12.PlanNone': WHATEVER THE INPUT: true; the input reads as it did. -/
def planNoneSpec : ChangeSpec := { name := "planNone", fn := fun _ => fun
  | [d] => { results := [.lit (.bool true)], args := [d] }
  | _ => none }
def planNoneRow : OpenClaim := { program := "ytljackjcgfaanaagreatdoor", sum := "908f718a376e3d7bc1e212ac093508a2dacb60a168787b82fdf1de187b5b5df4", func := "wakeman/wakemanlaw12.PlanNone", spec := "planNone", unfollowed := true, recurses := true, named := ["math/bits.deBruijn64tab", "wakeman/civil.lengths"], apart := false, laid := [("math/bits.deBruijn64tab", laid_math_bits_deBruijn64tab), ("wakeman/civil.lengths", laid_wakeman_civil_lengths)] }
def PlanNoneSaid : Prop := planNoneRow.holds Tryz.pinned (OpenSpec.ofChange planNoneSpec)

/-- ITS FALSE NEIGHBOUR: 'it returns false'. Refute it at one input. -/
def planNoneWrong : ChangeSpec := { name := "planNone", fn := fun _ => fun
  | [d] => { results := [.lit (.bool false)], args := [d] }
  | _ => none }
def PlanNoneWrongFalsely : Prop := planNoneRow.holds Tryz.pinned (OpenSpec.ofChange planNoneWrong)

/-- 'wakemanlaw12.PlanDue': WHATEVER THE INPUT: true; the input reads as it did. -/
def planDueSpec : ChangeSpec := { name := "planDue", fn := fun _ => fun
  | [d1, d2] => { results := [.lit (.bool true)], args := [d1, d2] }
  | _ => none }
def planDueRow : OpenClaim := { program := "ytljackjcgfaanaagreatdoor", sum := "908f718a376e3d7bc1e212ac093508a2dacb60a168787b82fdf1de187b5b5df4", func := "wakeman/wakemanlaw12.PlanDue", spec := "planDue", unfollowed := true, recurses := true, named := ["math/bits.deBruijn64tab", "wakeman/civil.lengths"], apart := false, laid := [("math/bits.deBruijn64tab", laid_math_bits_deBruijn64tab), ("wakeman/civil.lengths", laid_wakeman_civil_lengths)] }
def PlanDueSaid : Prop := planDueRow.holds Tryz.pinned (OpenSpec.ofChange planDueSpec)

/-- ITS FALSE NEIGHBOUR: 'it returns false'. Refute it at one input. -/
def planDueWrong : ChangeSpec := { name := "planDue", fn := fun _ => fun
  | [d1, d2] => { results := [.lit (.bool false)], args := [d1, d2] }
  | _ => none }
def PlanDueWrongFalsely : Prop := planDueRow.holds Tryz.pinned (OpenSpec.ofChange planDueWrong)

/-- 'wakemanlaw12.PlanKnown': WHATEVER THE INPUT: true; the input reads as it did. -/
def planKnownSpec : ChangeSpec := { name := "planKnown", fn := fun _ => fun
  | [] => { results := [.lit (.bool true)], args := [] }
  | _ => none }
def planKnownRow : OpenClaim := { program := "ytljackjcgfaanaagreatdoor", sum := "908f718a376e3d7bc1e212ac093508a2dacb60a168787b82fdf1de187b5b5df4", func := "wakeman/wakemanlaw12.PlanKnown", spec := "planKnown", unfollowed := true, recurses := true, named := ["math/bits.deBruijn64tab", "wakeman/civil.lengths"], apart := false, laid := [("math/bits.deBruijn64tab", laid_math_bits_deBruijn64tab), ("wakeman/civil.lengths", laid_wakeman_civil_lengths)] }
def PlanKnownSaid : Prop := planKnownRow.holds Tryz.pinned (OpenSpec.ofChange planKnownSpec)

/-- ITS FALSE NEIGHBOUR: 'it returns false'. Refute it at one input. -/
def planKnownWrong : ChangeSpec := { name := "planKnown", fn := fun _ => fun
  | [] => { results := [.lit (.bool false)], args := [] }
  | _ => none }
def PlanKnownWrongFalsely : Prop := planKnownRow.holds Tryz.pinned (OpenSpec.ofChange planKnownWrong)

/- THE SECOND FORM. 'bulk': how many values and letters a reading holds, each counted each time it is reached (what is shared counts as often as it is met; a slice's spare places count too). A statement '..UptoSaid' is the law's where the arguments, and the package variables that the reading takes, are together of bulk at most 1048576: NARROWER than '..Said'. Prove '..Said' where nothing that the law and all that it calls make is longer than what came in: it says more and counts as full. Else prove '..UptoSaid'. A law counts once. -/
mutual
def uptoBulk {H : Type} : DataW H → Nat
  | .lit (.string bytes) => bytes.length + 1
  | .lit _ => 1
  | .nil => 1
  | .ptr d => uptoBulk d + 1
  | .slice elems spare => uptoBulkAll elems + uptoBulkAll spare + 1
  | .agg parts => uptoBulkAll parts + 1
  | .iface _ d => uptoBulk d + 1
  | .map entries => uptoBulkEntries entries + 1
  | .held _ => 1
def uptoBulkAll {H : Type} : List (DataW H) → Nat
  | [] => 0
  | d :: r => uptoBulk d + uptoBulkAll r
def uptoBulkEntries {H : Type} : List (Lit × DataW H) → Nat
  | [] => 0
  | x :: r => uptoBulkEntry x + uptoBulkEntries r
def uptoBulkEntry {H : Type} : Lit × DataW H → Nat
  | (.string bytes, d) => bytes.length + uptoBulk d + 1
  | (_, d) => uptoBulk d + 1
 end
def uptoSmall : (H : Type) → List (DataW H) → Bool := fun _ ds => decide (uptoBulkAll ds ≤ 1048576)
def OpenSpec.upto (s : _root_.Go.ChangeSpec) : _root_.Go.OpenSpec := { _root_.Go.OpenSpec.ofChange s with cond := some uptoSmall }

/-- 'wakemanlaw12.PlanChecks', WHERE WHAT IT READS IS OF BULK AT MOST 1048576: true; the input reads as it did. -/
def planChecksUptoRow : OpenClaim := { program := "ytljackjcgfaanaagreatdoor", sum := "908f718a376e3d7bc1e212ac093508a2dacb60a168787b82fdf1de187b5b5df4", func := "wakeman/wakemanlaw12.PlanChecks", spec := "planChecks", unfollowed := true, recurses := true, named := ["math/bits.deBruijn64tab", "wakeman/civil.lengths"], apart := false, laid := [("math/bits.deBruijn64tab", laid_math_bits_deBruijn64tab), ("wakeman/civil.lengths", laid_wakeman_civil_lengths)], narrowed := true }
def PlanChecksUptoSaid : Prop := planChecksUptoRow.holds Tryz.pinned (OpenSpec.upto planChecksSpec)

/-- 'wakemanlaw12.PlanLists', WHERE WHAT IT READS IS OF BULK AT MOST 1048576: true; the input reads as it did. -/
def planListsUptoRow : OpenClaim := { program := "ytljackjcgfaanaagreatdoor", sum := "908f718a376e3d7bc1e212ac093508a2dacb60a168787b82fdf1de187b5b5df4", func := "wakeman/wakemanlaw12.PlanLists", spec := "planLists", unfollowed := true, recurses := true, named := ["math/bits.deBruijn64tab", "wakeman/civil.lengths"], apart := false, laid := [("math/bits.deBruijn64tab", laid_math_bits_deBruijn64tab), ("wakeman/civil.lengths", laid_wakeman_civil_lengths)], narrowed := true }
def PlanListsUptoSaid : Prop := planListsUptoRow.holds Tryz.pinned (OpenSpec.upto planListsSpec)

/-- 'wakemanlaw12.PlanSames', WHERE WHAT IT READS IS OF BULK AT MOST 1048576: true; the input reads as it did. -/
def planSamesUptoRow : OpenClaim := { program := "ytljackjcgfaanaagreatdoor", sum := "908f718a376e3d7bc1e212ac093508a2dacb60a168787b82fdf1de187b5b5df4", func := "wakeman/wakemanlaw12.PlanSames", spec := "planSames", unfollowed := true, recurses := true, named := ["math/bits.deBruijn64tab", "wakeman/civil.lengths"], apart := false, laid := [("math/bits.deBruijn64tab", laid_math_bits_deBruijn64tab), ("wakeman/civil.lengths", laid_wakeman_civil_lengths)], narrowed := true }
def PlanSamesUptoSaid : Prop := planSamesUptoRow.holds Tryz.pinned (OpenSpec.upto planSamesSpec)

/-- 'wakemanlaw12.PlanDues', WHERE WHAT IT READS IS OF BULK AT MOST 1048576: true; the input reads as it did. -/
def planDuesUptoRow : OpenClaim := { program := "ytljackjcgfaanaagreatdoor", sum := "908f718a376e3d7bc1e212ac093508a2dacb60a168787b82fdf1de187b5b5df4", func := "wakeman/wakemanlaw12.PlanDues", spec := "planDues", unfollowed := true, recurses := true, named := ["math/bits.deBruijn64tab", "wakeman/civil.lengths"], apart := false, laid := [("math/bits.deBruijn64tab", laid_math_bits_deBruijn64tab), ("wakeman/civil.lengths", laid_wakeman_civil_lengths)], narrowed := true }
def PlanDuesUptoSaid : Prop := planDuesUptoRow.holds Tryz.pinned (OpenSpec.upto planDuesSpec)

/-- 'wakemanlaw12.PlanNearest', WHERE WHAT IT READS IS OF BULK AT MOST 1048576: true; the input reads as it did. -/
def planNearestUptoRow : OpenClaim := { program := "ytljackjcgfaanaagreatdoor", sum := "908f718a376e3d7bc1e212ac093508a2dacb60a168787b82fdf1de187b5b5df4", func := "wakeman/wakemanlaw12.PlanNearest", spec := "planNearest", unfollowed := true, recurses := true, named := ["math/bits.deBruijn64tab", "wakeman/civil.lengths"], apart := false, laid := [("math/bits.deBruijn64tab", laid_math_bits_deBruijn64tab), ("wakeman/civil.lengths", laid_wakeman_civil_lengths)], narrowed := true }
def PlanNearestUptoSaid : Prop := planNearestUptoRow.holds Tryz.pinned (OpenSpec.upto planNearestSpec)

/-- 'wakemanlaw12.PlanSkips', WHERE WHAT IT READS IS OF BULK AT MOST 1048576: true; the input reads as it did. -/
def planSkipsUptoRow : OpenClaim := { program := "ytljackjcgfaanaagreatdoor", sum := "908f718a376e3d7bc1e212ac093508a2dacb60a168787b82fdf1de187b5b5df4", func := "wakeman/wakemanlaw12.PlanSkips", spec := "planSkips", unfollowed := true, recurses := true, named := ["math/bits.deBruijn64tab", "wakeman/civil.lengths"], apart := false, laid := [("math/bits.deBruijn64tab", laid_math_bits_deBruijn64tab), ("wakeman/civil.lengths", laid_wakeman_civil_lengths)], narrowed := true }
def PlanSkipsUptoSaid : Prop := planSkipsUptoRow.holds Tryz.pinned (OpenSpec.upto planSkipsSpec)

/-- 'wakemanlaw12.PlanSums', WHERE WHAT IT READS IS OF BULK AT MOST 1048576: true; the input reads as it did. -/
def planSumsUptoRow : OpenClaim := { program := "ytljackjcgfaanaagreatdoor", sum := "908f718a376e3d7bc1e212ac093508a2dacb60a168787b82fdf1de187b5b5df4", func := "wakeman/wakemanlaw12.PlanSums", spec := "planSums", unfollowed := true, recurses := true, named := ["math/bits.deBruijn64tab", "wakeman/civil.lengths"], apart := false, laid := [("math/bits.deBruijn64tab", laid_math_bits_deBruijn64tab), ("wakeman/civil.lengths", laid_wakeman_civil_lengths)], narrowed := true }
def PlanSumsUptoSaid : Prop := planSumsUptoRow.holds Tryz.pinned (OpenSpec.upto planSumsSpec)

/-- 'wakemanlaw12.PlanNone', WHERE WHAT IT READS IS OF BULK AT MOST 1048576: true; the input reads as it did. -/
def planNoneUptoRow : OpenClaim := { program := "ytljackjcgfaanaagreatdoor", sum := "908f718a376e3d7bc1e212ac093508a2dacb60a168787b82fdf1de187b5b5df4", func := "wakeman/wakemanlaw12.PlanNone", spec := "planNone", unfollowed := true, recurses := true, named := ["math/bits.deBruijn64tab", "wakeman/civil.lengths"], apart := false, laid := [("math/bits.deBruijn64tab", laid_math_bits_deBruijn64tab), ("wakeman/civil.lengths", laid_wakeman_civil_lengths)], narrowed := true }
def PlanNoneUptoSaid : Prop := planNoneUptoRow.holds Tryz.pinned (OpenSpec.upto planNoneSpec)

/-- 'wakemanlaw12.PlanDue', WHERE WHAT IT READS IS OF BULK AT MOST 1048576: true; the input reads as it did. -/
def planDueUptoRow : OpenClaim := { program := "ytljackjcgfaanaagreatdoor", sum := "908f718a376e3d7bc1e212ac093508a2dacb60a168787b82fdf1de187b5b5df4", func := "wakeman/wakemanlaw12.PlanDue", spec := "planDue", unfollowed := true, recurses := true, named := ["math/bits.deBruijn64tab", "wakeman/civil.lengths"], apart := false, laid := [("math/bits.deBruijn64tab", laid_math_bits_deBruijn64tab), ("wakeman/civil.lengths", laid_wakeman_civil_lengths)], narrowed := true }
def PlanDueUptoSaid : Prop := planDueUptoRow.holds Tryz.pinned (OpenSpec.upto planDueSpec)

/-- 'wakemanlaw12.PlanKnown', WHERE WHAT IT READS IS OF BULK AT MOST 1048576: true; the input reads as it did. -/
def planKnownUptoRow : OpenClaim := { program := "ytljackjcgfaanaagreatdoor", sum := "908f718a376e3d7bc1e212ac093508a2dacb60a168787b82fdf1de187b5b5df4", func := "wakeman/wakemanlaw12.PlanKnown", spec := "planKnown", unfollowed := true, recurses := true, named := ["math/bits.deBruijn64tab", "wakeman/civil.lengths"], apart := false, laid := [("math/bits.deBruijn64tab", laid_math_bits_deBruijn64tab), ("wakeman/civil.lengths", laid_wakeman_civil_lengths)], narrowed := true }
def PlanKnownUptoSaid : Prop := planKnownUptoRow.holds Tryz.pinned (OpenSpec.upto planKnownSpec)

end Rows
end Go.Proofs.YtljackjcgfaanaaGreatDoor
