/- Compare answers what the reference does, as the statement ValueOrders asks: it answers true for every two values, valid or not, however deep, in every world that holds the listed variables, in whatever order regions are evaluated. -/
import Derived.Test.YtolnkacccdkaoaaGreatDoorValz
import Derived.Test.YtolnkacccdkaoaaGreatDoorVSeat6
import Derived.Test.YtolnkacccdkaoaaGreatDoorU4ValueOrders
namespace Go.Proofs.YtolnkacccdkaoaaGreatDoor
open Go.Eng Go.RowKit
theorem orders_univ : UValueOrders.Univ := by
  intro T1 T2 W hL h1 s1 h2 s2
  have hL' : LaidCells W := laid_cells hL
  exact Orders_any T1 T2 W h1 s1 h2 s2 (fun W' hb => Vknown_of (laid_keep hL' hb))
theorem valueOrders_card : Rows.ValueOrdersCardSaid := UValueOrders.card orders_univ
#print axioms valueOrders_card
end Go.Proofs.YtolnkacccdkaoaaGreatDoor
