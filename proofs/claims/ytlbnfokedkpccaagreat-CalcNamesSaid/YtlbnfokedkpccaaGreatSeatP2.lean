import Derived.Test.YtlbnfokedkpccaaGreatSeat5
set_option linter.all false
set_option maxRecDepth 100000
namespace Go.Proofs.YtlbnfokedkpccaaGreat
open Go.Eng
theorem p2 : pieceB Zt 0 100000 200 136 (sq1 (dropC 5 body13)) L1.st .normal L2 = true := by kernel_rfl
end Go.Proofs.YtlbnfokedkpccaaGreat
