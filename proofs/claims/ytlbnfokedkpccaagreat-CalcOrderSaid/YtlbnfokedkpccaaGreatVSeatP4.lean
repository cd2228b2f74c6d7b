import Derived.Test.YtlbnfokedkpccaaGreatVSeat5
set_option linter.all false
set_option maxRecDepth 100000
namespace Go.Proofs.YtlbnfokedkpccaaGreat
open Go.Eng
theorem Vp4 : pieceB Zt 0 100000 200 168 (sq1 (dropC 3 (sq2 (dropC 2 bodyV15)))) VL3.st .normal VL4 = true := by kernel_rfl
end Go.Proofs.YtlbnfokedkpccaaGreat
