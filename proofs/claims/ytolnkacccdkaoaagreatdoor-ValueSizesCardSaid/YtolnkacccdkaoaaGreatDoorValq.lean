/- Sizes of values that numbers make, put together as other numbers say, are as the statement ValueSizes asks: it answers true for every two lists of numbers, in every world that holds the listed variables, in whatever order regions are evaluated. -/
import Derived.Test.YtolnkacccdkaoaaGreatDoorValp
import Derived.Test.YtolnkacccdkaoaaGreatDoorVSeat6
import Derived.Test.YtolnkacccdkaoaaGreatDoorU4ValueSizes
namespace Go.Proofs.YtolnkacccdkaoaaGreatDoor
open Go.Eng Go.RowKit
theorem sizes_univ : UValueSizes.Univ := by
  intro a1 n1 c1 l1 a2 n2 c2 l2 W hL h1 h2
  exact Sizes_any W.heap.size a1 n1 c1 l1 a2 n2 c2 l2 W h1 h2 (Nat.le_refl _) (fun W' hb => Vknown_of (laid_keep (laid_cells hL) hb))
theorem valueSizes_card : Rows.ValueSizesCardSaid := UValueSizes.card sizes_univ
#print axioms valueSizes_card
end Go.Proofs.YtolnkacccdkaoaaGreatDoor
