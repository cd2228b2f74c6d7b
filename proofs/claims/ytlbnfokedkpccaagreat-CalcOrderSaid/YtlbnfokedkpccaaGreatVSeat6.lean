import Derived.Test.YtlbnfokedkpccaaGreatVSeatP1
import Derived.Test.YtlbnfokedkpccaaGreatVSeatP2
import Derived.Test.YtlbnfokedkpccaaGreatVSeatP3
import Derived.Test.YtlbnfokedkpccaaGreatVSeatP4
import Derived.Test.YtlbnfokedkpccaaGreatVSeatP5
import Derived.Test.YtlbnfokedkpccaaGreatVSeatP6
import Derived.Test.YtlbnfokedkpccaaGreatSeat3
set_option linter.all false
set_option maxRecDepth 100000
namespace Go.Proofs.YtlbnfokedkpccaaGreat
open Go.Eng
theorem Vwalk [Shift] (B : Nat) : Tri (par B) 0 168 bodyV15 ⟨.e, h0, []⟩ .ret VL6.st :=
  (tri_take (zok B) rfl (show 168 ≤ 2 ^ 30 by decide) 2 Vp1 (show Tri (par B) 0 168 (dropC 2 bodyV15) VL1.st .ret VL6.st from (tri_item rfl (tri_piece (zok B) rfl (show 168 ≤ 2 ^ 30 by decide) Vp2) (tri_take (zok B) rfl (show 168 ≤ 2 ^ 30 by decide) 3 Vp3 (show Tri (par B) 0 168 (dropC 3 (sq2 (dropC 2 bodyV15))) VL3.st .ret VL6.st from (tri_item rfl (tri_piece (zok B) rfl (show 168 ≤ 2 ^ 30 by decide) Vp4) (tri_take (zok B) rfl (show 168 ≤ 2 ^ 30 by decide) 3 Vp5 (show Tri (par B) 0 168 (dropC 3 (sq2 (dropC 3 (sq2 (dropC 2 bodyV15))))) VL5.st .ret VL6.st from (tri_piece (zok B) rfl (show 168 ≤ 2 ^ 30 by decide) Vp6)))))))))
theorem VfnA : Zt.fn 15 = some Tryz.f15 := by kernel_rfl
theorem VntmpsA : Tryz.f15.ntmps = 168 := by kernel_rfl
theorem VresA : resultsOf Zt VL6.st.h VL6.st.T Tryz.f15.results.toList = some (.bool true) := by kernel_rfl
theorem Vknown [Shift] {e : Env} {W : World} (hR : Rel (par W.heap.size) e h0 W) : Calls Tryz.prog 15 #[] W fun en w' => en = .returned (.bool true) ∧ Go.RowKit.Below W.heap.size W w' :=
  closed_tri (p := par W.heap.size) (l := VL6) (zok W.heap.size) VfnA bodyV15_eq (by rw [VntmpsA]; exact Vwalk W.heap.size) VresA hR rfl
theorem Vknown_of {W : World} (h : LaidCells W) : Calls Tryz.prog 15 #[] W fun en w' => en = .returned (.bool true) ∧ Go.RowKit.Below W.heap.size W w' := by
  obtain ⟨sh, e, hR⟩ := start_of h
  exact Vknown hR
#print axioms Vknown
end Go.Proofs.YtlbnfokedkpccaaGreat
