import Derived.Test.YtooppedofcpfeaaGreatDoorSeat5
set_option linter.all false
set_option maxRecDepth 100000
namespace Go.Proofs.YtooppedofcpfeaaGreatDoor
open Go.Eng
theorem p9 : pieceB Zt 100000 200 397 (x84) L8.st .normal L9 = true := by kernel_rfl
theorem p10 : pieceB Zt 100000 200 397 (z8) L9.st .normal L10 = true := by kernel_rfl
end Go.Proofs.YtooppedofcpfeaaGreatDoor
