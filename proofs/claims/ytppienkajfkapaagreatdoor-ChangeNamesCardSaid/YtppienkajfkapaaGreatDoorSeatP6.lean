import Derived.Test.YtppienkajfkapaaGreatDoorSeat5
set_option linter.all false
set_option maxRecDepth 100000
namespace Go.Proofs.YtppienkajfkapaaGreatDoor
open Go.Eng
theorem p6 : pieceB Zt 1 100000 200 166 (takeC 3 (sq2 (dropC 2 (sq2 (dropC 6 body3))))) L5.st .normal L6 = true := by kernel_rfl
end Go.Proofs.YtppienkajfkapaaGreatDoor
