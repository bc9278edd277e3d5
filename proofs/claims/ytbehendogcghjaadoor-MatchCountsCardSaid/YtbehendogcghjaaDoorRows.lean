/-
  NARROWER THAN 'FOR EVERY INPUT', by the rows' own cells (each row's printed sentence says how): MatchIs: laid · MatchNexts: laid · MatchLists: laid · MatchCounts: laid · MatchNearest: laid · MatchTurns: laid · MatchZones: laid · MatchSums: laid · MatchWeeks: laid · MatchOr: laid · MatchEver: laid · MatchKnown: laid.
  DERIVED. THE GIVEN ROWS OF THIS SEAT. 12 by the template 'for every input the law returns true; each argument reads behind the call as it read before'; 0 by the template 'total and deterministic' (their statements: YtbehendogcghjaaDoorTotals.lean).
  GIVEN WITH THE SEED: the statements are not yours to turn. If you find one false, say at which input.
  Laid BY PROGRAM, IN A SANDBOX (cutbox-rows.mjs): the forced cells as the released guide's own fill.sh prints them over the translation 9b36ad064aa2325e… (all of the seat's roots in one cut). By AI agents, Wed Nov 11 2026. No macro, syntax, notation, axiom, sorry.
-/
import Derived.Test.YtbehendogcghjaaDoorChecked
import GoSem.Claim
import GoSem.ClaimJoined
import GoSem.ClaimMapViews
import Derived.JoinedTies
import Derived.KernelRfl
namespace Go.Proofs.YtbehendogcghjaaDoor
/- THE CELL 'sum', in the pinned program and in every row, IS THE sha256 OF THE DUMP (.gsa) THAT YtbehendogcghjaaDoorProg.lean LOADS. Nothing in Lean hashes anything: it is a label: what it is worth is what the hold of that sum in a sandbox is worth. -/
noncomputable def Tryd.pinned : Pinned := { name := "ytbehendogcghjaadoor", sum := "9b36ad064aa2325ecf27e899926536d6228cb3ab87ddbefdfed1a652aac575ea", checked := Tryd.checked }
namespace Rows
def none {H : Type} : Left H := { results := [], args := [] }

/- WHAT THE LISTED PACKAGE-LEVEL VARIABLES READ AS WHEN THE CALL BEGINS. Each datum BY PROGRAM (the guide's laid-datum.mjs) off the statement by which the dump's own 'gosem.cut.vars' lays the variable. In a bare row this is a premise. The card (YtbehendogcghjaaDoorCards.lean) ties it to the program's text. -/
def laid_math_bits_deBruijn64tab {H : Type} : DataW H := .agg [.lit (.int .u8 0), .lit (.int .u8 1), .lit (.int .u8 56), .lit (.int .u8 2), .lit (.int .u8 57), .lit (.int .u8 49), .lit (.int .u8 28), .lit (.int .u8 3), .lit (.int .u8 61), .lit (.int .u8 58), .lit (.int .u8 42), .lit (.int .u8 50), .lit (.int .u8 38), .lit (.int .u8 29), .lit (.int .u8 17), .lit (.int .u8 4), .lit (.int .u8 62), .lit (.int .u8 47), .lit (.int .u8 59), .lit (.int .u8 36), .lit (.int .u8 45), .lit (.int .u8 43), .lit (.int .u8 51), .lit (.int .u8 22), .lit (.int .u8 53), .lit (.int .u8 39), .lit (.int .u8 33), .lit (.int .u8 30), .lit (.int .u8 24), .lit (.int .u8 18), .lit (.int .u8 12), .lit (.int .u8 5), .lit (.int .u8 63), .lit (.int .u8 55), .lit (.int .u8 48), .lit (.int .u8 27), .lit (.int .u8 60), .lit (.int .u8 41), .lit (.int .u8 37), .lit (.int .u8 16), .lit (.int .u8 46), .lit (.int .u8 35), .lit (.int .u8 44), .lit (.int .u8 21), .lit (.int .u8 52), .lit (.int .u8 32), .lit (.int .u8 23), .lit (.int .u8 11), .lit (.int .u8 54), .lit (.int .u8 26), .lit (.int .u8 40), .lit (.int .u8 15), .lit (.int .u8 34), .lit (.int .u8 20), .lit (.int .u8 31), .lit (.int .u8 10), .lit (.int .u8 25), .lit (.int .u8 14), .lit (.int .u8 19), .lit (.int .u8 9), .lit (.int .u8 13), .lit (.int .u8 8), .lit (.int .u8 7), .lit (.int .u8 6)]
def laid_wakeman_civil_lengths {H : Type} : DataW H := .agg [.lit (.int .i64 31), .lit (.int .i64 28), .lit (.int .i64 31), .lit (.int .i64 30), .lit (.int .i64 31), .lit (.int .i64 30), .lit (.int .i64 31), .lit (.int .i64 31), .lit (.int .i64 30), .lit (.int .i64 31), .lit (.int .i64 30), .lit (.int .i64 31)]

/-- 'wakemanlaw08.MatchIs': WHATEVER THE INPUT: true; the input reads as it did. -/
def matchIsSpec : ChangeSpec := { name := "matchIs", fn := fun _ => fun
  | [d1, d2, d3] => { results := [.lit (.bool true)], args := [d1, d2, d3] }
  | _ => none }
def matchIsRow : OpenClaim := { program := "ytbehendogcghjaadoor", sum := "9b36ad064aa2325ecf27e899926536d6228cb3ab87ddbefdfed1a652aac575ea", func := "wakeman/wakemanlaw08.MatchIs", spec := "matchIs", unfollowed := true, recurses := true, named := ["math/bits.deBruijn64tab", "wakeman/civil.lengths"], apart := false, laid := [("math/bits.deBruijn64tab", laid_math_bits_deBruijn64tab), ("wakeman/civil.lengths", laid_wakeman_civil_lengths)] }
def MatchIsSaid : Prop := matchIsRow.holds Tryd.pinned (OpenSpec.ofChange matchIsSpec)

/-- ITS FALSE NEIGHBOUR: 'it returns false'. Refute it at one input. -/
def matchIsWrong : ChangeSpec := { name := "matchIs", fn := fun _ => fun
  | [d1, d2, d3] => { results := [.lit (.bool false)], args := [d1, d2, d3] }
  | _ => none }
def MatchIsWrongFalsely : Prop := matchIsRow.holds Tryd.pinned (OpenSpec.ofChange matchIsWrong)

/-- 'wakemanlaw08.MatchNexts': WHATEVER THE INPUT: true; the input reads as it did. -/
def matchNextsSpec : ChangeSpec := { name := "matchNexts", fn := fun _ => fun
  | [d1, d2, d3] => { results := [.lit (.bool true)], args := [d1, d2, d3] }
  | _ => none }
def matchNextsRow : OpenClaim := { program := "ytbehendogcghjaadoor", sum := "9b36ad064aa2325ecf27e899926536d6228cb3ab87ddbefdfed1a652aac575ea", func := "wakeman/wakemanlaw08.MatchNexts", spec := "matchNexts", unfollowed := true, recurses := true, named := ["math/bits.deBruijn64tab", "wakeman/civil.lengths"], apart := false, laid := [("math/bits.deBruijn64tab", laid_math_bits_deBruijn64tab), ("wakeman/civil.lengths", laid_wakeman_civil_lengths)] }
def MatchNextsSaid : Prop := matchNextsRow.holds Tryd.pinned (OpenSpec.ofChange matchNextsSpec)

/-- ITS FALSE NEIGHBOUR: 'it returns false'. Refute it at one input. -/
def matchNextsWrong : ChangeSpec := { name := "matchNexts", fn := fun _ => fun
  | [d1, d2, d3] => { results := [.lit (.bool false)], args := [d1, d2, d3] }
  | _ => none }
def MatchNextsWrongFalsely : Prop := matchNextsRow.holds Tryd.pinned (OpenSpec.ofChange matchNextsWrong)

/-- 'wakemanlaw08.MatchLists': WHATEVER THE INPUT: true; the input reads as it did. -/
def matchListsSpec : ChangeSpec := { name := "matchLists", fn := fun _ => fun
  | [d1, d2, d3, d4, d5] => { results := [.lit (.bool true)], args := [d1, d2, d3, d4, d5] }
  | _ => none }
def matchListsRow : OpenClaim := { program := "ytbehendogcghjaadoor", sum := "9b36ad064aa2325ecf27e899926536d6228cb3ab87ddbefdfed1a652aac575ea", func := "wakeman/wakemanlaw08.MatchLists", spec := "matchLists", unfollowed := true, recurses := true, named := ["math/bits.deBruijn64tab", "wakeman/civil.lengths"], apart := false, laid := [("math/bits.deBruijn64tab", laid_math_bits_deBruijn64tab), ("wakeman/civil.lengths", laid_wakeman_civil_lengths)] }
def MatchListsSaid : Prop := matchListsRow.holds Tryd.pinned (OpenSpec.ofChange matchListsSpec)

/-- ITS FALSE NEIGHBOUR: 'it returns false'. Refute it at one input. -/
def matchListsWrong : ChangeSpec := { name := "matchLists", fn := fun _ => fun
  | [d1, d2, d3, d4, d5] => { results := [.lit (.bool false)], args := [d1, d2, d3, d4, d5] }
  | _ => none }
def MatchListsWrongFalsely : Prop := matchListsRow.holds Tryd.pinned (OpenSpec.ofChange matchListsWrong)

/-- 'wakemanlaw08.MatchCounts': WHATEVER THE INPUT: true; the input reads as it did. -/
def matchCountsSpec : ChangeSpec := { name := "matchCounts", fn := fun _ => fun
  | [d1, d2, d3, d4] => { results := [.lit (.bool true)], args := [d1, d2, d3, d4] }
  | _ => none }
def matchCountsRow : OpenClaim := { program := "ytbehendogcghjaadoor", sum := "9b36ad064aa2325ecf27e899926536d6228cb3ab87ddbefdfed1a652aac575ea", func := "wakeman/wakemanlaw08.MatchCounts", spec := "matchCounts", unfollowed := true, recurses := true, named := ["math/bits.deBruijn64tab", "wakeman/civil.lengths"], apart := false, laid := [("math/bits.deBruijn64tab", laid_math_bits_deBruijn64tab), ("wakeman/civil.lengths", laid_wakeman_civil_lengths)] }
def MatchCountsSaid : Prop := matchCountsRow.holds Tryd.pinned (OpenSpec.ofChange matchCountsSpec)

/-- ITS FALSE NEIGHBOUR: 'it returns false'. Refute it at one input. -/
def matchCountsWrong : ChangeSpec := { name := "matchCounts", fn := fun _ => fun
  | [d1, d2, d3, d4] => { results := [.lit (.bool false)], args := [d1, d2, d3, d4] }
  | _ => none }
def MatchCountsWrongFalsely : Prop := matchCountsRow.holds Tryd.pinned (OpenSpec.ofChange matchCountsWrong)

/-- 'wakemanlaw08.MatchNearest': WHATEVER THE INPUT: true; the input reads as it did. -/
def matchNearestSpec : ChangeSpec := { name := "matchNearest", fn := fun _ => fun
  | [d1, d2, d3] => { results := [.lit (.bool true)], args := [d1, d2, d3] }
  | _ => none }
def matchNearestRow : OpenClaim := { program := "ytbehendogcghjaadoor", sum := "9b36ad064aa2325ecf27e899926536d6228cb3ab87ddbefdfed1a652aac575ea", func := "wakeman/wakemanlaw08.MatchNearest", spec := "matchNearest", unfollowed := true, recurses := true, named := ["math/bits.deBruijn64tab", "wakeman/civil.lengths"], apart := false, laid := [("math/bits.deBruijn64tab", laid_math_bits_deBruijn64tab), ("wakeman/civil.lengths", laid_wakeman_civil_lengths)] }
def MatchNearestSaid : Prop := matchNearestRow.holds Tryd.pinned (OpenSpec.ofChange matchNearestSpec)

/-- ITS FALSE NEIGHBOUR: 'it returns false'. Refute it at one input. -/
def matchNearestWrong : ChangeSpec := { name := "matchNearest", fn := fun _ => fun
  | [d1, d2, d3] => { results := [.lit (.bool false)], args := [d1, d2, d3] }
  | _ => none }
def MatchNearestWrongFalsely : Prop := matchNearestRow.holds Tryd.pinned (OpenSpec.ofChange matchNearestWrong)

/-- 'wakemanlaw08.MatchTurns': WHATEVER THE INPUT: true; the input reads as it did. -/
def matchTurnsSpec : ChangeSpec := { name := "matchTurns", fn := fun _ => fun
  | [d1, d2, d3] => { results := [.lit (.bool true)], args := [d1, d2, d3] }
  | _ => none }
def matchTurnsRow : OpenClaim := { program := "ytbehendogcghjaadoor", sum := "9b36ad064aa2325ecf27e899926536d6228cb3ab87ddbefdfed1a652aac575ea", func := "wakeman/wakemanlaw08.MatchTurns", spec := "matchTurns", unfollowed := true, recurses := true, named := ["math/bits.deBruijn64tab", "wakeman/civil.lengths"], apart := false, laid := [("math/bits.deBruijn64tab", laid_math_bits_deBruijn64tab), ("wakeman/civil.lengths", laid_wakeman_civil_lengths)] }
def MatchTurnsSaid : Prop := matchTurnsRow.holds Tryd.pinned (OpenSpec.ofChange matchTurnsSpec)

/-- ITS FALSE NEIGHBOUR: 'it returns false'. Refute it at one input. -/
def matchTurnsWrong : ChangeSpec := { name := "matchTurns", fn := fun _ => fun
  | [d1, d2, d3] => { results := [.lit (.bool false)], args := [d1, d2, d3] }
  | _ => none }
def MatchTurnsWrongFalsely : Prop := matchTurnsRow.holds Tryd.pinned (OpenSpec.ofChange matchTurnsWrong)

/-- 'wakemanlaw08.MatchZones': WHATEVER THE INPUT: true; the input reads as it did. -/
def matchZonesSpec : ChangeSpec := { name := "matchZones", fn := fun _ => fun
  | [d1, d2, d3] => { results := [.lit (.bool true)], args := [d1, d2, d3] }
  | _ => none }
def matchZonesRow : OpenClaim := { program := "ytbehendogcghjaadoor", sum := "9b36ad064aa2325ecf27e899926536d6228cb3ab87ddbefdfed1a652aac575ea", func := "wakeman/wakemanlaw08.MatchZones", spec := "matchZones", unfollowed := true, recurses := true, named := ["math/bits.deBruijn64tab", "wakeman/civil.lengths"], apart := false, laid := [("math/bits.deBruijn64tab", laid_math_bits_deBruijn64tab), ("wakeman/civil.lengths", laid_wakeman_civil_lengths)] }
def MatchZonesSaid : Prop := matchZonesRow.holds Tryd.pinned (OpenSpec.ofChange matchZonesSpec)

/-- ITS FALSE NEIGHBOUR: 'it returns false'. Refute it at one input. -/
def matchZonesWrong : ChangeSpec := { name := "matchZones", fn := fun _ => fun
  | [d1, d2, d3] => { results := [.lit (.bool false)], args := [d1, d2, d3] }
  | _ => none }
def MatchZonesWrongFalsely : Prop := matchZonesRow.holds Tryd.pinned (OpenSpec.ofChange matchZonesWrong)

/-- 'wakemanlaw08.MatchSums': WHATEVER THE INPUT: true; the input reads as it did. -/
def matchSumsSpec : ChangeSpec := { name := "matchSums", fn := fun _ => fun
  | [d1, d2, d3, d4, d5] => { results := [.lit (.bool true)], args := [d1, d2, d3, d4, d5] }
  | _ => none }
def matchSumsRow : OpenClaim := { program := "ytbehendogcghjaadoor", sum := "9b36ad064aa2325ecf27e899926536d6228cb3ab87ddbefdfed1a652aac575ea", func := "wakeman/wakemanlaw08.MatchSums", spec := "matchSums", unfollowed := true, recurses := true, named := ["math/bits.deBruijn64tab", "wakeman/civil.lengths"], apart := false, laid := [("math/bits.deBruijn64tab", laid_math_bits_deBruijn64tab), ("wakeman/civil.lengths", laid_wakeman_civil_lengths)] }
def MatchSumsSaid : Prop := matchSumsRow.holds Tryd.pinned (OpenSpec.ofChange matchSumsSpec)

/-- ITS FALSE NEIGHBOUR: 'it returns false'. Refute it at one input. -/
def matchSumsWrong : ChangeSpec := { name := "matchSums", fn := fun _ => fun
  | [d1, d2, d3, d4, d5] => { results := [.lit (.bool false)], args := [d1, d2, d3, d4, d5] }
  | _ => none }
def MatchSumsWrongFalsely : Prop := matchSumsRow.holds Tryd.pinned (OpenSpec.ofChange matchSumsWrong)

/-- 'wakemanlaw08.MatchWeeks': WHATEVER THE INPUT: true; the input reads as it did. -/
def matchWeeksSpec : ChangeSpec := { name := "matchWeeks", fn := fun _ => fun
  | [d1, d2, d3] => { results := [.lit (.bool true)], args := [d1, d2, d3] }
  | _ => none }
def matchWeeksRow : OpenClaim := { program := "ytbehendogcghjaadoor", sum := "9b36ad064aa2325ecf27e899926536d6228cb3ab87ddbefdfed1a652aac575ea", func := "wakeman/wakemanlaw08.MatchWeeks", spec := "matchWeeks", unfollowed := true, recurses := true, named := ["math/bits.deBruijn64tab", "wakeman/civil.lengths"], apart := false, laid := [("math/bits.deBruijn64tab", laid_math_bits_deBruijn64tab), ("wakeman/civil.lengths", laid_wakeman_civil_lengths)] }
def MatchWeeksSaid : Prop := matchWeeksRow.holds Tryd.pinned (OpenSpec.ofChange matchWeeksSpec)

/-- ITS FALSE NEIGHBOUR: 'it returns false'. Refute it at one input. -/
def matchWeeksWrong : ChangeSpec := { name := "matchWeeks", fn := fun _ => fun
  | [d1, d2, d3] => { results := [.lit (.bool false)], args := [d1, d2, d3] }
  | _ => none }
def MatchWeeksWrongFalsely : Prop := matchWeeksRow.holds Tryd.pinned (OpenSpec.ofChange matchWeeksWrong)

/-- 'wakemanlaw08.MatchOr': WHATEVER THE INPUT: true; the input reads as it did. -/
def matchOrSpec : ChangeSpec := { name := "matchOr", fn := fun _ => fun
  | [d1, d2, d3] => { results := [.lit (.bool true)], args := [d1, d2, d3] }
  | _ => none }
def matchOrRow : OpenClaim := { program := "ytbehendogcghjaadoor", sum := "9b36ad064aa2325ecf27e899926536d6228cb3ab87ddbefdfed1a652aac575ea", func := "wakeman/wakemanlaw08.MatchOr", spec := "matchOr", unfollowed := true, recurses := true, named := ["math/bits.deBruijn64tab", "wakeman/civil.lengths"], apart := false, laid := [("math/bits.deBruijn64tab", laid_math_bits_deBruijn64tab), ("wakeman/civil.lengths", laid_wakeman_civil_lengths)] }
def MatchOrSaid : Prop := matchOrRow.holds Tryd.pinned (OpenSpec.ofChange matchOrSpec)

/-- ITS FALSE NEIGHBOUR: 'it returns false'. Refute it at one input. -/
def matchOrWrong : ChangeSpec := { name := "matchOr", fn := fun _ => fun
  | [d1, d2, d3] => { results := [.lit (.bool false)], args := [d1, d2, d3] }
  | _ => none }
def MatchOrWrongFalsely : Prop := matchOrRow.holds Tryd.pinned (OpenSpec.ofChange matchOrWrong)

/-- 'wakemanlaw08.MatchEver': WHATEVER THE INPUT: true; the input reads as it did. -/
def matchEverSpec : ChangeSpec := { name := "matchEver", fn := fun _ => fun
  | [d] => { results := [.lit (.bool true)], args := [d] }
  | _ => none }
def matchEverRow : OpenClaim := { program := "ytbehendogcghjaadoor", sum := "9b36ad064aa2325ecf27e899926536d6228cb3ab87ddbefdfed1a652aac575ea", func := "wakeman/wakemanlaw08.MatchEver", spec := "matchEver", unfollowed := true, recurses := true, named := ["math/bits.deBruijn64tab", "wakeman/civil.lengths"], apart := false, laid := [("math/bits.deBruijn64tab", laid_math_bits_deBruijn64tab), ("wakeman/civil.lengths", laid_wakeman_civil_lengths)] }
def MatchEverSaid : Prop := matchEverRow.holds Tryd.pinned (OpenSpec.ofChange matchEverSpec)

/-- ITS FALSE NEIGHBOUR: 'it returns false'. Refute it at one input. -/
def matchEverWrong : ChangeSpec := { name := "matchEver", fn := fun _ => fun
  | [d] => { results := [.lit (.bool false)], args := [d] }
  | _ => none }
def MatchEverWrongFalsely : Prop := matchEverRow.holds Tryd.pinned (OpenSpec.ofChange matchEverWrong)

/-- 'wakemanlaw08.MatchKnown': WHATEVER THE INPUT: true; the input reads as it did. -/
def matchKnownSpec : ChangeSpec := { name := "matchKnown", fn := fun _ => fun
  | [] => { results := [.lit (.bool true)], args := [] }
  | _ => none }
def matchKnownRow : OpenClaim := { program := "ytbehendogcghjaadoor", sum := "9b36ad064aa2325ecf27e899926536d6228cb3ab87ddbefdfed1a652aac575ea", func := "wakeman/wakemanlaw08.MatchKnown", spec := "matchKnown", unfollowed := true, recurses := true, named := ["math/bits.deBruijn64tab", "wakeman/civil.lengths"], apart := false, laid := [("math/bits.deBruijn64tab", laid_math_bits_deBruijn64tab), ("wakeman/civil.lengths", laid_wakeman_civil_lengths)] }
def MatchKnownSaid : Prop := matchKnownRow.holds Tryd.pinned (OpenSpec.ofChange matchKnownSpec)

/-- ITS FALSE NEIGHBOUR: 'it returns false'. Refute it at one input. -/
def matchKnownWrong : ChangeSpec := { name := "matchKnown", fn := fun _ => fun
  | [] => { results := [.lit (.bool false)], args := [] }
  | _ => none }
def MatchKnownWrongFalsely : Prop := matchKnownRow.holds Tryd.pinned (OpenSpec.ofChange matchKnownWrong)

/- THE SECOND FORM. 'bulk': how many values and letters a reading holds, each counted each time it is reached (what is shared counts as often as it is met; a slice's spare places count too). A statement '..UptoSaid' is the law's where the arguments, and the package variables that the reading takes, are together of bulk at most 1048576: NARROWER than '..Said'. Prove '..Said' where nothing that the law and all that it calls make is longer than what came in: it says more and counts as full. Else prove '..UptoSaid'. A law counts once. -/
mutual
def uptoBulk {H : Type} : DataW H → Nat
  | .lit (.string bytes) => bytes.length + 1
  | .lit _ => 1
  | .nil => 1
  | .ptr d => uptoBulk d + 1
  | .slice elems spare => uptoBulkAll elems + uptoBulkAll spare + 1
  | .agg parts => uptoBulkAll parts + 1
  | .iface _ d => uptoBulk d + 1
  | .map entries => uptoBulkEntries entries + 1
  | .held _ => 1
def uptoBulkAll {H : Type} : List (DataW H) → Nat
  | [] => 0
  | d :: r => uptoBulk d + uptoBulkAll r
def uptoBulkEntries {H : Type} : List (Lit × DataW H) → Nat
  | [] => 0
  | x :: r => uptoBulkEntry x + uptoBulkEntries r
def uptoBulkEntry {H : Type} : Lit × DataW H → Nat
  | (.string bytes, d) => bytes.length + uptoBulk d + 1
  | (_, d) => uptoBulk d + 1
 end
def uptoSmall : (H : Type) → List (DataW H) → Bool := fun _ ds => decide (uptoBulkAll ds ≤ 1048576)
def OpenSpec.upto (s : _root_.Go.ChangeSpec) : _root_.Go.OpenSpec := { _root_.Go.OpenSpec.ofChange s with cond := some uptoSmall }

/-- 'wakemanlaw08.MatchIs', WHERE WHAT IT READS IS OF BULK AT MOST 1048576: true; the input reads as it did. -/
def matchIsUptoRow : OpenClaim := { program := "ytbehendogcghjaadoor", sum := "9b36ad064aa2325ecf27e899926536d6228cb3ab87ddbefdfed1a652aac575ea", func := "wakeman/wakemanlaw08.MatchIs", spec := "matchIs", unfollowed := true, recurses := true, named := ["math/bits.deBruijn64tab", "wakeman/civil.lengths"], apart := false, laid := [("math/bits.deBruijn64tab", laid_math_bits_deBruijn64tab), ("wakeman/civil.lengths", laid_wakeman_civil_lengths)], narrowed := true }
def MatchIsUptoSaid : Prop := matchIsUptoRow.holds Tryd.pinned (OpenSpec.upto matchIsSpec)

/-- 'wakemanlaw08.MatchNexts', WHERE WHAT IT READS IS OF BULK AT MOST 1048576: true; the input reads as it did. -/
def matchNextsUptoRow : OpenClaim := { program := "ytbehendogcghjaadoor", sum := "9b36ad064aa2325ecf27e899926536d6228cb3ab87ddbefdfed1a652aac575ea", func := "wakeman/wakemanlaw08.MatchNexts", spec := "matchNexts", unfollowed := true, recurses := true, named := ["math/bits.deBruijn64tab", "wakeman/civil.lengths"], apart := false, laid := [("math/bits.deBruijn64tab", laid_math_bits_deBruijn64tab), ("wakeman/civil.lengths", laid_wakeman_civil_lengths)], narrowed := true }
def MatchNextsUptoSaid : Prop := matchNextsUptoRow.holds Tryd.pinned (OpenSpec.upto matchNextsSpec)

/-- 'wakemanlaw08.MatchLists', WHERE WHAT IT READS IS OF BULK AT MOST 1048576: true; the input reads as it did. -/
def matchListsUptoRow : OpenClaim := { program := "ytbehendogcghjaadoor", sum := "9b36ad064aa2325ecf27e899926536d6228cb3ab87ddbefdfed1a652aac575ea", func := "wakeman/wakemanlaw08.MatchLists", spec := "matchLists", unfollowed := true, recurses := true, named := ["math/bits.deBruijn64tab", "wakeman/civil.lengths"], apart := false, laid := [("math/bits.deBruijn64tab", laid_math_bits_deBruijn64tab), ("wakeman/civil.lengths", laid_wakeman_civil_lengths)], narrowed := true }
def MatchListsUptoSaid : Prop := matchListsUptoRow.holds Tryd.pinned (OpenSpec.upto matchListsSpec)

/-- 'wakemanlaw08.MatchCounts', WHERE WHAT IT READS IS OF BULK AT MOST 1048576: true; the input reads as it did. -/
def matchCountsUptoRow : OpenClaim := { program := "ytbehendogcghjaadoor", sum := "9b36ad064aa2325ecf27e899926536d6228cb3ab87ddbefdfed1a652aac575ea", func := "wakeman/wakemanlaw08.MatchCounts", spec := "matchCounts", unfollowed := true, recurses := true, named := ["math/bits.deBruijn64tab", "wakeman/civil.lengths"], apart := false, laid := [("math/bits.deBruijn64tab", laid_math_bits_deBruijn64tab), ("wakeman/civil.lengths", laid_wakeman_civil_lengths)], narrowed := true }
def MatchCountsUptoSaid : Prop := matchCountsUptoRow.holds Tryd.pinned (OpenSpec.upto matchCountsSpec)

/-- 'wakemanlaw08.MatchNearest', WHERE WHAT IT READS IS OF BULK AT MOST 1048576: true; the input reads as it did. -/
def matchNearestUptoRow : OpenClaim := { program := "ytbehendogcghjaadoor", sum := "9b36ad064aa2325ecf27e899926536d6228cb3ab87ddbefdfed1a652aac575ea", func := "wakeman/wakemanlaw08.MatchNearest", spec := "matchNearest", unfollowed := true, recurses := true, named := ["math/bits.deBruijn64tab", "wakeman/civil.lengths"], apart := false, laid := [("math/bits.deBruijn64tab", laid_math_bits_deBruijn64tab), ("wakeman/civil.lengths", laid_wakeman_civil_lengths)], narrowed := true }
def MatchNearestUptoSaid : Prop := matchNearestUptoRow.holds Tryd.pinned (OpenSpec.upto matchNearestSpec)

/-- 'wakemanlaw08.MatchTurns', WHERE WHAT IT READS IS OF BULK AT MOST 1048576: true; the input reads as it did. -/
def matchTurnsUptoRow : OpenClaim := { program := "ytbehendogcghjaadoor", sum := "9b36ad064aa2325ecf27e899926536d6228cb3ab87ddbefdfed1a652aac575ea", func := "wakeman/wakemanlaw08.MatchTurns", spec := "matchTurns", unfollowed := true, recurses := true, named := ["math/bits.deBruijn64tab", "wakeman/civil.lengths"], apart := false, laid := [("math/bits.deBruijn64tab", laid_math_bits_deBruijn64tab), ("wakeman/civil.lengths", laid_wakeman_civil_lengths)], narrowed := true }
def MatchTurnsUptoSaid : Prop := matchTurnsUptoRow.holds Tryd.pinned (OpenSpec.upto matchTurnsSpec)

/-- 'wakemanlaw08.MatchZones', WHERE WHAT IT READS IS OF BULK AT MOST 1048576: true; the input reads as it did. -/
def matchZonesUptoRow : OpenClaim := { program := "ytbehendogcghjaadoor", sum := "9b36ad064aa2325ecf27e899926536d6228cb3ab87ddbefdfed1a652aac575ea", func := "wakeman/wakemanlaw08.MatchZones", spec := "matchZones", unfollowed := true, recurses := true, named := ["math/bits.deBruijn64tab", "wakeman/civil.lengths"], apart := false, laid := [("math/bits.deBruijn64tab", laid_math_bits_deBruijn64tab), ("wakeman/civil.lengths", laid_wakeman_civil_lengths)], narrowed := true }
def MatchZonesUptoSaid : Prop := matchZonesUptoRow.holds Tryd.pinned (OpenSpec.upto matchZonesSpec)

/-- 'wakemanlaw08.MatchSums', WHERE WHAT IT READS IS OF BULK AT MOST 1048576: true; the input reads as it did. -/
def matchSumsUptoRow : OpenClaim := { program := "ytbehendogcghjaadoor", sum := "9b36ad064aa2325ecf27e899926536d6228cb3ab87ddbefdfed1a652aac575ea", func := "wakeman/wakemanlaw08.MatchSums", spec := "matchSums", unfollowed := true, recurses := true, named := ["math/bits.deBruijn64tab", "wakeman/civil.lengths"], apart := false, laid := [("math/bits.deBruijn64tab", laid_math_bits_deBruijn64tab), ("wakeman/civil.lengths", laid_wakeman_civil_lengths)], narrowed := true }
def MatchSumsUptoSaid : Prop := matchSumsUptoRow.holds Tryd.pinned (OpenSpec.upto matchSumsSpec)

/-- 'wakemanlaw08.MatchWeeks', WHERE WHAT IT READS IS OF BULK AT MOST 1048576: true; the input reads as it did. -/
def matchWeeksUptoRow : OpenClaim := { program := "ytbehendogcghjaadoor", sum := "9b36ad064aa2325ecf27e899926536d6228cb3ab87ddbefdfed1a652aac575ea", func := "wakeman/wakemanlaw08.MatchWeeks", spec := "matchWeeks", unfollowed := true, recurses := true, named := ["math/bits.deBruijn64tab", "wakeman/civil.lengths"], apart := false, laid := [("math/bits.deBruijn64tab", laid_math_bits_deBruijn64tab), ("wakeman/civil.lengths", laid_wakeman_civil_lengths)], narrowed := true }
def MatchWeeksUptoSaid : Prop := matchWeeksUptoRow.holds Tryd.pinned (OpenSpec.upto matchWeeksSpec)

/-- 'wakemanlaw08.MatchOr', WHERE WHAT IT READS IS OF BULK AT MOST 1048576: true; the input reads as it did. -/
def matchOrUptoRow : OpenClaim := { program := "ytbehendogcghjaadoor", sum := "9b36ad064aa2325ecf27e899926536d6228cb3ab87ddbefdfed1a652aac575ea", func := "wakeman/wakemanlaw08.MatchOr", spec := "matchOr", unfollowed := true, recurses := true, named := ["math/bits.deBruijn64tab", "wakeman/civil.lengths"], apart := false, laid := [("math/bits.deBruijn64tab", laid_math_bits_deBruijn64tab), ("wakeman/civil.lengths", laid_wakeman_civil_lengths)], narrowed := true }
def MatchOrUptoSaid : Prop := matchOrUptoRow.holds Tryd.pinned (OpenSpec.upto matchOrSpec)

/-- 'wakemanlaw08.MatchEver', WHERE WHAT IT READS IS OF BULK AT MOST 1048576: true; the input reads as it did. -/
def matchEverUptoRow : OpenClaim := { program := "ytbehendogcghjaadoor", sum := "9b36ad064aa2325ecf27e899926536d6228cb3ab87ddbefdfed1a652aac575ea", func := "wakeman/wakemanlaw08.MatchEver", spec := "matchEver", unfollowed := true, recurses := true, named := ["math/bits.deBruijn64tab", "wakeman/civil.lengths"], apart := false, laid := [("math/bits.deBruijn64tab", laid_math_bits_deBruijn64tab), ("wakeman/civil.lengths", laid_wakeman_civil_lengths)], narrowed := true }
def MatchEverUptoSaid : Prop := matchEverUptoRow.holds Tryd.pinned (OpenSpec.upto matchEverSpec)

/-- 'wakemanlaw08.MatchKnown', WHERE WHAT IT READS IS OF BULK AT MOST 1048576: true; the input reads as it did. -/
def matchKnownUptoRow : OpenClaim := { program := "ytbehendogcghjaadoor", sum := "9b36ad064aa2325ecf27e899926536d6228cb3ab87ddbefdfed1a652aac575ea", func := "wakeman/wakemanlaw08.MatchKnown", spec := "matchKnown", unfollowed := true, recurses := true, named := ["math/bits.deBruijn64tab", "wakeman/civil.lengths"], apart := false, laid := [("math/bits.deBruijn64tab", laid_math_bits_deBruijn64tab), ("wakeman/civil.lengths", laid_wakeman_civil_lengths)], narrowed := true }
def MatchKnownUptoSaid : Prop := matchKnownUptoRow.holds Tryd.pinned (OpenSpec.upto matchKnownSpec)

end Rows
end Go.Proofs.YtbehendogcghjaaDoor
