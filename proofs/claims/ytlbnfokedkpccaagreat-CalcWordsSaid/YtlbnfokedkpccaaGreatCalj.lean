/- The laws of words hold, as the statement CalcWords asks: it answers true for every two words, in every world, in whatever order regions are evaluated. -/
import Derived.Test.YtlbnfokedkpccaaGreatCali
import Derived.Test.YtlbnfokedkpccaaGreatVSeat6
import Derived.Test.YtlbnfokedkpccaaGreatU4CalcWords
namespace Go.Proofs.YtlbnfokedkpccaaGreat
open Go.Eng Go.RowKit
theorem words_univ : UCalcWords.Univ := by
  intro b1 b2 W hL h1 h2
  have hL' : LaidCells W := laid_cells hL
  exact Words_any b1 b2 h1 h2 W (fun W' hb => Vknown_of (laid_keep hL' hb))
theorem calcWords_said : Rows.CalcWordsSaid := UCalcWords.said words_univ
#print axioms calcWords_said
end Go.Proofs.YtlbnfokedkpccaaGreat
