/- Less and same order all values that numbers make, as the statement CalcOrder asks: it answers true for every three lists of numbers, in every world, in whatever order regions are evaluated. -/
import Derived.Test.YtlbnfokedkpccaaGreatOrdl
import Derived.Test.YtlbnfokedkpccaaGreatOrdn
import Derived.Test.YtlbnfokedkpccaaGreatVSeat6
import Derived.Test.YtlbnfokedkpccaaGreatU4CalcOrder
namespace Go.Proofs.YtlbnfokedkpccaaGreat
open Go.Eng Go.RowKit
theorem order_univ : UCalcOrder.Univ := by
  intro a1 n1 c1 l1 a2 n2 c2 l2 a3 n3 c3 l3 W hL i1 i2 i3
  have hL' : LaidCells W := by first | exact laid_cells hL | exact trivial
  have hv : ∀ W', Below W.heap.size W W' → Calls Tryz.prog 15 #[] W' fun e W'' => e = .returned (.bool true) ∧ Below W'.heap.size W' W'' := fun W' hb => Vknown_of (laid_keep hL' hb)
  by_cases g1 : (60 : Int) < n1
  · exact CalcOrder_far a1 a2 a3 n1 c1 n2 c2 n3 c3 W hv (.inl g1)
  · by_cases g2 : (60 : Int) < n2
    · exact CalcOrder_far a1 a2 a3 n1 c1 n2 c2 n3 c3 W hv (.inr (.inl g2))
    · by_cases g3 : (60 : Int) < n3
      · exact CalcOrder_far a1 a2 a3 n1 c1 n2 c2 n3 c3 W hv (.inr (.inr g3))
      · exact CalcOrder_any a1 a2 a3 n1 c1 n2 c2 n3 c3 l1 l2 l3 W i1 i2 i3 (fun W' => Kinds_any W' trivial) hv g1 g2 g3
theorem calcOrder_said : Rows.CalcOrderSaid := UCalcOrder.said order_univ
#print axioms calcOrder_said
end Go.Proofs.YtlbnfokedkpccaaGreat
