import Derived.Test.YtooppedofcpfeaaGreatDoorSeat5
set_option linter.all false
set_option maxRecDepth 100000
namespace Go.Proofs.YtooppedofcpfeaaGreatDoor
open Go.Eng
theorem p21 : pieceB Zt 100000 200 397 (takeC 6 D17) L20.st .normal L21 = true := by kernel_rfl
theorem p22 : pieceB Zt 100000 200 397 (D23) L21.st .ret L22 = true := by kernel_rfl
end Go.Proofs.YtooppedofcpfeaaGreatDoor
