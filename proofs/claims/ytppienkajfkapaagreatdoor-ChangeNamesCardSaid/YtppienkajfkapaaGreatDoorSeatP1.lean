import Derived.Test.YtppienkajfkapaaGreatDoorSeat5
set_option linter.all false
set_option maxRecDepth 100000
namespace Go.Proofs.YtppienkajfkapaaGreatDoor
open Go.Eng
theorem p1 : pieceB Zt 1 100000 200 166 (takeC 6 body3) ⟨.e, h0, []⟩ .normal L1 = true := by kernel_rfl
end Go.Proofs.YtppienkajfkapaaGreatDoor
