import Derived.Test.YtooppedofcpfeaaGreatDoorSeat5
set_option linter.all false
set_option maxRecDepth 100000
namespace Go.Proofs.YtooppedofcpfeaaGreatDoor
open Go.Eng
theorem p11 : roundsB Zt 100000 200 397 5 b8 L10.st L11 = true := by kernel_rfl
theorem p12 : restB Zt 100000 200 397 100 b8 L11.st (.exit 8) L12 = true := by kernel_rfl
end Go.Proofs.YtooppedofcpfeaaGreatDoor
