/- The name of strconv's table of the powers of ten, as the rows list it. -/
import Derived.Test.YtjlipkklljjdjaaDoorRows
namespace Go.Proofs.YtjlipkklljjdjaaDoor
open Go
noncomputable def powName : String := (Rows.lexLinesRow.laid.map (fun x => x.1)).getD 2 ""
theorem powNamed : Tryd.prog.globalNamed powName = some 3 := by kernel_rfl
end Go.Proofs.YtjlipkklljjdjaaDoor
