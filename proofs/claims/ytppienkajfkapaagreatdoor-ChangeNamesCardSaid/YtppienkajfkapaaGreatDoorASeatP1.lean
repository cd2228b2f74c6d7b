import Derived.Test.YtppienkajfkapaaGreatDoorASeat5
set_option linter.all false
set_option maxRecDepth 100000
namespace Go.Proofs.YtppienkajfkapaaGreatDoor
open Go.Eng
theorem Ap1 : pieceB Zt 1 100000 200 202 (takeC 3 bodyA17) AL0.st .normal AL1 = true := by kernel_rfl
end Go.Proofs.YtppienkajfkapaaGreatDoor
