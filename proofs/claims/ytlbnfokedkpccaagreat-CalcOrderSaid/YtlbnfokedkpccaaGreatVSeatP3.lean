import Derived.Test.YtlbnfokedkpccaaGreatVSeat5
set_option linter.all false
set_option maxRecDepth 100000
namespace Go.Proofs.YtlbnfokedkpccaaGreat
open Go.Eng
theorem Vp3 : pieceB Zt 0 100000 200 168 (takeC 3 (sq2 (dropC 2 bodyV15))) VL2.st .normal VL3 = true := by kernel_rfl
end Go.Proofs.YtlbnfokedkpccaaGreat
