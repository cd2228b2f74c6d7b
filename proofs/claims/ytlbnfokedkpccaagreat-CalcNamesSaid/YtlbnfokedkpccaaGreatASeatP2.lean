import Derived.Test.YtlbnfokedkpccaaGreatASeat5
set_option linter.all false
set_option maxRecDepth 100000
namespace Go.Proofs.YtlbnfokedkpccaaGreat
open Go.Eng
theorem Ap2 : pieceB Zt 0 100000 200 168 (takeC 3 (dropC 3 bodyA15)) AL1.st .normal AL2 = true := by kernel_rfl
end Go.Proofs.YtlbnfokedkpccaaGreat
