import Derived.Test.YtlbnfokedkpccaaGreatASeat5
set_option linter.all false
set_option maxRecDepth 100000
namespace Go.Proofs.YtlbnfokedkpccaaGreat
open Go.Eng
theorem Ap5 : pieceB Zt 0 100000 200 168 (dropC 2 (sq2 (dropC 6 bodyA15))) AL4.st .ret AL5 = true := by kernel_rfl
end Go.Proofs.YtlbnfokedkpccaaGreat
