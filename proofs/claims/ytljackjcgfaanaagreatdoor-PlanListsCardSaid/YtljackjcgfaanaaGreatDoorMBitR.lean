/- Contracts of firstRun and of Runs, of package bits; == of two arrays of three ints. -/
import Derived.Test.YtljackjcgfaanaaGreatDoorMBitG
import Derived.Laws.EntriesVeiled
import Derived.RangeFuncNested
import Derived.RangeFuncCalls
import Derived.Laws.StructEq
/- Contracts of firstRun and of Runs, of package bits; == of two arrays of three ints. -/
namespace Go.Proofs.YtljackjcgfaanaaGreatDoor
open Go.ChangeShapes Go.RowKit

def same3 (a b c a' b' c' : Int) : Bool := a == a' && (b == b' && c == c')
end Go.Proofs.YtljackjcgfaanaaGreatDoor
