import Derived.Test.YtofboalgbgipoaaGreatDoorVSeatP1
import Derived.Test.YtofboalgbgipoaaGreatDoorVSeatP2
import Derived.Test.YtofboalgbgipoaaGreatDoorSeat3
set_option linter.all false
set_option maxRecDepth 100000
namespace Go.Proofs.YtofboalgbgipoaaGreatDoor
open Go.Eng
theorem Vwalk [Shift] (B : Nat) : Tri (par B) 0 166 bodyV16 ⟨.e, h0, []⟩ .ret VL2.st :=
  (tri_take (zok B) rfl (show 166 ≤ 2 ^ 30 by decide) 12 Vp1 (show Tri (par B) 0 166 (dropC 12 bodyV16) VL1.st .ret VL2.st from (tri_piece (zok B) rfl (show 166 ≤ 2 ^ 30 by decide) Vp2)))
theorem VfnA : Zt.fn 16 = some Tryz.f16 := by kernel_rfl
theorem VntmpsA : Tryz.f16.ntmps = 166 := by kernel_rfl
theorem VresA : resultsOf Zt VL2.st.h VL2.st.T Tryz.f16.results.toList = some (.bool true) := by kernel_rfl
theorem Vknown [Shift] {e : Env} {W : World} (hR : Rel (par W.heap.size) e h0 W) : Calls Tryz.prog 16 #[] W fun en w' => en = .returned (.bool true) ∧ Go.RowKit.Below W.heap.size W w' :=
  closed_tri (p := par W.heap.size) (l := VL2) (zok W.heap.size) VfnA bodyV16_eq (by rw [VntmpsA]; exact Vwalk W.heap.size) VresA hR rfl
theorem Vknown_of {W : World} (h : LaidCells W) : Calls Tryz.prog 16 #[] W fun en w' => en = .returned (.bool true) ∧ Go.RowKit.Below W.heap.size W w' := by
  obtain ⟨sh, e, hR⟩ := start_of h
  exact Vknown hR
#print axioms Vknown
end Go.Proofs.YtofboalgbgipoaaGreatDoor
