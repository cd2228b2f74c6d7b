import Derived.Test.YtooppedofcpfeaaGreatDoorSeat5
set_option linter.all false
set_option maxRecDepth 100000
namespace Go.Proofs.YtooppedofcpfeaaGreatDoor
open Go.Eng
theorem p3 : pieceB Zt 100000 200 397 (r8) L2.st .normal L3 = true := by kernel_rfl
theorem p4 : roundsB Zt 100000 200 397 5 b8 L3.st L4 = true := by kernel_rfl
end Go.Proofs.YtooppedofcpfeaaGreatDoor
