import Derived.Test.YtooppedofcpfeaaGreatDoorSeat5
set_option linter.all false
set_option maxRecDepth 100000
namespace Go.Proofs.YtooppedofcpfeaaGreatDoor
open Go.Eng
theorem p19 : pieceB Zt 100000 200 397 (takeC 2 D13) L18.st .normal L19 = true := by kernel_rfl
theorem p20 : pieceB Zt 100000 200 397 (takeC 2 D15) L19.st .normal L20 = true := by kernel_rfl
end Go.Proofs.YtooppedofcpfeaaGreatDoor
