import Derived.Test.YtppienkajfkapaaGreatDoorASeat5
set_option linter.all false
set_option maxRecDepth 100000
namespace Go.Proofs.YtppienkajfkapaaGreatDoor
open Go.Eng
theorem Ap7 : pieceB Zt 1 100000 200 202 (takeC 1 (dropC 3 (sq2 (sq2 (sq2 (sq2 (dropC 3 bodyA17))))))) AL6.st .normal AL7 = true := by kernel_rfl
end Go.Proofs.YtppienkajfkapaaGreatDoor
