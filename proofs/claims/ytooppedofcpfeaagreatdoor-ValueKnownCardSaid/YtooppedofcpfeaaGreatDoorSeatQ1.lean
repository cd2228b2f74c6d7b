import Derived.Test.YtooppedofcpfeaaGreatDoorSeat5
set_option linter.all false
set_option maxRecDepth 100000
namespace Go.Proofs.YtooppedofcpfeaaGreatDoor
open Go.Eng
theorem p1 : pieceB Zt 100000 200 397 (takeC 7 body12) ⟨.e, h0, []⟩ .normal L1 = true := by kernel_rfl
theorem p2 : pieceB Zt 100000 200 397 (takeC 1 D7) L1.st .normal L2 = true := by kernel_rfl
end Go.Proofs.YtooppedofcpfeaaGreatDoor
