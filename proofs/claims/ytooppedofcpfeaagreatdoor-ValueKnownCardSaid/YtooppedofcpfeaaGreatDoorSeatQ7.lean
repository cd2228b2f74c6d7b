import Derived.Test.YtooppedofcpfeaaGreatDoorSeat5
set_option linter.all false
set_option maxRecDepth 100000
namespace Go.Proofs.YtooppedofcpfeaaGreatDoor
open Go.Eng
theorem p7 : pieceB Zt 100000 200 397 (takeC 2 x8) L6.st .normal L7 = true := by kernel_rfl
theorem p8 : pieceB Zt 100000 200 397 (takeC 2 x82) L7.st .normal L8 = true := by kernel_rfl
end Go.Proofs.YtooppedofcpfeaaGreatDoor
