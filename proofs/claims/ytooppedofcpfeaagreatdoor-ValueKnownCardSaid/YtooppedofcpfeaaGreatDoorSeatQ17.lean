import Derived.Test.YtooppedofcpfeaaGreatDoorSeat5
set_option linter.all false
set_option maxRecDepth 100000
namespace Go.Proofs.YtooppedofcpfeaaGreatDoor
open Go.Eng
theorem p17 : roundsB Zt 100000 200 397 10 b12 L16.st L17 = true := by kernel_rfl
theorem p18 : restB Zt 100000 200 397 100 b12 L17.st (.exit 12) L18 = true := by kernel_rfl
end Go.Proofs.YtooppedofcpfeaaGreatDoor
