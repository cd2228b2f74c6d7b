/- Type, Check, Is, Size and Least answer what the reference does, as the statement ValueChecks asks: it answers true for every value and every type, valid or not, however deep, in every world that holds the listed variables, in whatever order regions are evaluated. -/
import Derived.Test.YtofboalgbgipoaaGreatDoorChke
import Derived.Test.YtofboalgbgipoaaGreatDoorVSeat6
import Derived.Test.YtofboalgbgipoaaGreatDoorU4ValueChecks
namespace Go.Proofs.YtofboalgbgipoaaGreatDoor
open Go.Eng Go.RowKit
theorem checks_univ : UValueChecks.Univ := by
  intro T1 T2 W hL h1 s1 h2
  have hL' : LaidCells W := laid_cells hL
  exact Checks_any T1 T2 W h1 s1 h2 (fun W' hb => Vknown_of (laid_keep hL' hb))
theorem valueChecks_card : Rows.ValueChecksCardSaid := UValueChecks.card checks_univ
#print axioms valueChecks_card
end Go.Proofs.YtofboalgbgipoaaGreatDoor
