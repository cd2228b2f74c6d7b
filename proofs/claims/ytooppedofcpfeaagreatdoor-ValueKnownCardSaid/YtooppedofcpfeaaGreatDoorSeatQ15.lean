import Derived.Test.YtooppedofcpfeaaGreatDoorSeat5
set_option linter.all false
set_option maxRecDepth 100000
namespace Go.Proofs.YtooppedofcpfeaaGreatDoor
open Go.Eng
theorem p15 : pieceB Zt 100000 200 397 (r12) L14.st .normal L15 = true := by kernel_rfl
theorem p16 : roundsB Zt 100000 200 397 9 b12 L15.st L16 = true := by kernel_rfl
end Go.Proofs.YtooppedofcpfeaaGreatDoor
