/- What an operation makes of two values is the document's, or why it makes nothing, as the statement CalcBin asks: it answers true for every number and every two values, valid or not, in every world, in whatever order regions are evaluated. -/
import Derived.Test.YtlbnfokedkpccaaGreatCalr
import Derived.Test.YtlbnfokedkpccaaGreatVSeat6
import Derived.Test.YtlbnfokedkpccaaGreatU4CalcBin
namespace Go.Proofs.YtlbnfokedkpccaaGreat
open Go.Eng Go.RowKit
theorem bin_univ : UCalcBin.Univ := by
  intro o A B W hL hA sA hB sB
  have hL' : LaidCells W := by first | exact laid_cells hL | exact trivial
  exact CalcBin_any o A B W hA sA hB sB (fun W' hb => Vknown_of (laid_keep hL' hb))
theorem calcBin_said : Rows.CalcBinSaid := UCalcBin.said bin_univ
#print axioms calcBin_said
end Go.Proofs.YtlbnfokedkpccaaGreat
