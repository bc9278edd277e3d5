/- What == says of two arrays of three ints, and of two civil times. -/
import Derived.Test.YtljackjcgfaanaaGreatDoorProg
import Derived.WalkKit
import Derived.ProofKit
import Derived.Laws.StructEq
namespace Go.Proofs.YtljackjcgfaanaaGreatDoor.Cv
open Go.RowKit

def same3 (a b c a' b' c' : Int) : Bool := a == a' && (b == b' && c == c')
end Go.Proofs.YtljackjcgfaanaaGreatDoor.Cv
