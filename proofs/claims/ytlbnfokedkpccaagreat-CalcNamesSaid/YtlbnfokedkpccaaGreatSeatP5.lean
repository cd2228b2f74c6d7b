import Derived.Test.YtlbnfokedkpccaaGreatSeat5
set_option linter.all false
set_option maxRecDepth 100000
namespace Go.Proofs.YtlbnfokedkpccaaGreat
open Go.Eng
theorem p5 : pieceB Zt 0 100000 200 136 (sq1 (sq2 (dropC 3 (sq2 (dropC 5 body13))))) L4.st .normal L5 = true := by kernel_rfl
end Go.Proofs.YtlbnfokedkpccaaGreat
