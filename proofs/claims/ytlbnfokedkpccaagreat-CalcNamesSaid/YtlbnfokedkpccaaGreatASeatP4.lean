import Derived.Test.YtlbnfokedkpccaaGreatASeat5
set_option linter.all false
set_option maxRecDepth 100000
namespace Go.Proofs.YtlbnfokedkpccaaGreat
open Go.Eng
theorem Ap4 : pieceB Zt 0 100000 200 168 (takeC 2 (sq2 (dropC 6 bodyA15))) AL3.st .normal AL4 = true := by kernel_rfl
end Go.Proofs.YtlbnfokedkpccaaGreat
