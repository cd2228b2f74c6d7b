import Derived.Test.YtlbnfokedkpccaaGreatASeat5
set_option linter.all false
set_option maxRecDepth 100000
namespace Go.Proofs.YtlbnfokedkpccaaGreat
open Go.Eng
theorem Ap3 : pieceB Zt 0 100000 200 168 (sq1 (dropC 6 bodyA15)) AL2.st .normal AL3 = true := by kernel_rfl
end Go.Proofs.YtlbnfokedkpccaaGreat
