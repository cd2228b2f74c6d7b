/- The least value of a type is of it, and no value of it is ahead of that, as the statement ValueLeast asks: it answers true for every list of numbers, in every world that holds the listed variables, in whatever order regions are evaluated. -/
import Derived.Test.YtofboalgbgipoaaGreatDoorLstf
import Derived.Test.YtofboalgbgipoaaGreatDoorVSeat6
import Derived.Test.YtofboalgbgipoaaGreatDoorU4ValueLeast
namespace Go.Proofs.YtofboalgbgipoaaGreatDoor
open Go.Eng Go.RowKit
theorem least_univ : UValueLeast.Univ := by
  intro a1 n1 c1 l1 W hL h1
  have hL' : LaidCells W := laid_cells hL
  exact Law_least W.heap.size a1 n1 c1 l1 W h1 (Nat.le_refl _) (fun W' hb => Vknown_of (laid_keep hL' hb))
theorem valueLeast_card : Rows.ValueLeastCardSaid := UValueLeast.card least_univ
#print axioms valueLeast_card
end Go.Proofs.YtofboalgbgipoaaGreatDoor
