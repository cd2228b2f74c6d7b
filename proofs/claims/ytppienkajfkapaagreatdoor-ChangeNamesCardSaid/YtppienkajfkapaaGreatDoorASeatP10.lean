import Derived.Test.YtppienkajfkapaaGreatDoorASeat5
set_option linter.all false
set_option maxRecDepth 100000
namespace Go.Proofs.YtppienkajfkapaaGreatDoor
open Go.Eng
theorem Ap10 : pieceB Zt 1 100000 200 202 (sq1 (dropC 2 (sq2 (dropC 4 (sq2 (sq2 (sq2 (sq2 (dropC 3 bodyA17))))))))) AL9.st .normal AL10 = true := by kernel_rfl
end Go.Proofs.YtppienkajfkapaaGreatDoor
