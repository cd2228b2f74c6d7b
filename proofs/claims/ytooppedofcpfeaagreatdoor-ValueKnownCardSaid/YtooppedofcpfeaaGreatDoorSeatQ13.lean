import Derived.Test.YtooppedofcpfeaaGreatDoorSeat5
set_option linter.all false
set_option maxRecDepth 100000
namespace Go.Proofs.YtooppedofcpfeaaGreatDoor
open Go.Eng
theorem p13 : pieceB Zt 100000 200 397 (takeC 2 D9) L12.st .normal L13 = true := by kernel_rfl
theorem p14 : pieceB Zt 100000 200 397 (takeC 1 D11) L13.st .normal L14 = true := by kernel_rfl
end Go.Proofs.YtooppedofcpfeaaGreatDoor
