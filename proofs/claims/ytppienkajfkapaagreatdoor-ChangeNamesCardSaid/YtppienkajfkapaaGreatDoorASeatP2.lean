import Derived.Test.YtppienkajfkapaaGreatDoorASeat5
set_option linter.all false
set_option maxRecDepth 100000
namespace Go.Proofs.YtppienkajfkapaaGreatDoor
open Go.Eng
theorem Ap2 : pieceB Zt 1 100000 200 202 (sq1 (dropC 3 bodyA17)) AL1.st .normal AL2 = true := by kernel_rfl
end Go.Proofs.YtppienkajfkapaaGreatDoor
