/- Of three values that numbers make it is one order, as the statement ValueOne asks: it answers true for every two lists of numbers, mixed or not, in every world that holds the listed variables, in whatever order regions are evaluated. -/
import Derived.Test.YtolnkacccdkaoaaGreatDoorValu
import Derived.Test.YtolnkacccdkaoaaGreatDoorVSeat6
import Derived.Test.YtolnkacccdkaoaaGreatDoorU4ValueOne
namespace Go.Proofs.YtolnkacccdkaoaaGreatDoor
open Go.Eng Go.RowKit
theorem one_univ : UValueOne.Univ := by
  intro a1 n1 c1 l1 a2 n2 c2 l2 b3 W hL h1 h2
  have hL' : LaidCells W := laid_cells hL
  exact One_any W.heap.size a1 n1 c1 l1 a2 n2 c2 l2 b3 W h1 h2 (Nat.le_refl _) (fun W' hb => Vknown_of (laid_keep hL' hb))
theorem valueOne_card : Rows.ValueOneCardSaid := UValueOne.card one_univ
#print axioms valueOne_card
end Go.Proofs.YtolnkacccdkaoaaGreatDoor
