import Derived.Test.YtppienkajfkapaaGreatDoorSeat5
set_option linter.all false
set_option maxRecDepth 100000
namespace Go.Proofs.YtppienkajfkapaaGreatDoor
open Go.Eng
theorem p3 : pieceB Zt 1 100000 200 166 (takeC 1 (sq2 (dropC 6 body3))) L2.st .normal L3 = true := by kernel_rfl
end Go.Proofs.YtppienkajfkapaaGreatDoor
