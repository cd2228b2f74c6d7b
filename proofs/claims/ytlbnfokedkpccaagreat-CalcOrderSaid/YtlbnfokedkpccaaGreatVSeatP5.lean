import Derived.Test.YtlbnfokedkpccaaGreatVSeat5
set_option linter.all false
set_option maxRecDepth 100000
namespace Go.Proofs.YtlbnfokedkpccaaGreat
open Go.Eng
theorem Vp5 : pieceB Zt 0 100000 200 168 (takeC 3 (sq2 (dropC 3 (sq2 (dropC 2 bodyV15))))) VL4.st .normal VL5 = true := by kernel_rfl
end Go.Proofs.YtlbnfokedkpccaaGreat
