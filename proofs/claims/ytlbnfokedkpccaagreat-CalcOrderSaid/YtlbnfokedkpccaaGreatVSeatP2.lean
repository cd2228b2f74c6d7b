import Derived.Test.YtlbnfokedkpccaaGreatVSeat5
set_option linter.all false
set_option maxRecDepth 100000
namespace Go.Proofs.YtlbnfokedkpccaaGreat
open Go.Eng
theorem Vp2 : pieceB Zt 0 100000 200 168 (sq1 (dropC 2 bodyV15)) VL1.st .normal VL2 = true := by kernel_rfl
end Go.Proofs.YtlbnfokedkpccaaGreat
