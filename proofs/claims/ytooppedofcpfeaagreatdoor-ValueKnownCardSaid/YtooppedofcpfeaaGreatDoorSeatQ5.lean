import Derived.Test.YtooppedofcpfeaaGreatDoorSeat5
set_option linter.all false
set_option maxRecDepth 100000
namespace Go.Proofs.YtooppedofcpfeaaGreatDoor
open Go.Eng
theorem p5 : roundsB Zt 100000 200 397 4 b8 L4.st L5 = true := by kernel_rfl
theorem p6 : pieceB Zt 100000 200 397 (a8) L5.st .normal L6 = true := by kernel_rfl
end Go.Proofs.YtooppedofcpfeaaGreatDoor
