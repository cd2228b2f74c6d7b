import Derived.Test.YtlbnfokedkpccaaGreatSeat1
import Derived.Test.YtlbnfokedkpccaaGreatRows
import Derived.MakeChecks
import Derived.Below
set_option linter.all false
namespace Go.Proofs.YtlbnfokedkpccaaGreat
open Go.Eng Go.ChangeShapes
/-- No variable is listed. -/
def LaidCells (_ : World) : Prop := True
theorem laid_cells {W : World} (_ : laidMetH Tryz.prog Rows.calcWordsRow.laid W) : LaidCells W := trivial
theorem laid_keep {W W' : World} (_ : LaidCells W) (_ : Go.RowKit.Below W.heap.size W W') : LaidCells W' := trivial
end Go.Proofs.YtlbnfokedkpccaaGreat
