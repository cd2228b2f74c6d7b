import Derived.Test.YtofboalgbgipoaaGreatDoorVSeat5
set_option linter.all false
set_option maxRecDepth 100000
namespace Go.Proofs.YtofboalgbgipoaaGreatDoor
open Go.Eng
theorem Vp1 : pieceB Zt 7 100000 200 166 (takeC 12 bodyV16) ⟨.e, h0, []⟩ .normal VL1 = true := by kernel_rfl
end Go.Proofs.YtofboalgbgipoaaGreatDoor
