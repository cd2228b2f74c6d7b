import Derived.Test.YtofboalgbgipoaaGreatDoorVSeat5
set_option linter.all false
set_option maxRecDepth 100000
namespace Go.Proofs.YtofboalgbgipoaaGreatDoor
open Go.Eng
theorem Vp2 : pieceB Zt 7 100000 200 166 (dropC 12 bodyV16) VL1.st .ret VL2 = true := by kernel_rfl
end Go.Proofs.YtofboalgbgipoaaGreatDoor
