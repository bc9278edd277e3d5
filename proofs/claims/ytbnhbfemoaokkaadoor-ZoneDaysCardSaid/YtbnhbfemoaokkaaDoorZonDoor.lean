/- The heap that the program's own run of its initialisers leaves meets the condition of each row of this seat. -/
import Derived.Test.YtbnhbfemoaokkaaDoorCivLaid
import Derived.Test.YtbnhbfemoaokkaaDoorCards
namespace Go.Proofs.YtbnhbfemoaokkaaDoor
theorem door_met (os : Os) (args : Array Value) : laidMetH Tryd.prog Rows.zoneTextsRow.laid ((World.doorLaid Tryd.prog 400 os).forCall (fun _ _ => 0) ⟨#[], args, []⟩).memory :=
  laidMetH_of_parts3 (fuel := 8) (laidMet_of_run' 8 (by kernel_rfl) (by kernel_rfl)) (by kernel_rfl) (by kernel_rfl)
end Go.Proofs.YtbnhbfemoaokkaaDoor
