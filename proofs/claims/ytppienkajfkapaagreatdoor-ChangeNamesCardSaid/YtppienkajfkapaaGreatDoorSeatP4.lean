import Derived.Test.YtppienkajfkapaaGreatDoorSeat5
set_option linter.all false
set_option maxRecDepth 100000
namespace Go.Proofs.YtppienkajfkapaaGreatDoor
open Go.Eng
theorem p4 : pieceB Zt 1 100000 200 166 (takeC 1 (dropC 1 (sq2 (dropC 6 body3)))) L3.st .normal L4 = true := by kernel_rfl
end Go.Proofs.YtppienkajfkapaaGreatDoor
