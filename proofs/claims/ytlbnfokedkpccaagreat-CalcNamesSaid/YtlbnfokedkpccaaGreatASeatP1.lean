import Derived.Test.YtlbnfokedkpccaaGreatASeat5
set_option linter.all false
set_option maxRecDepth 100000
namespace Go.Proofs.YtlbnfokedkpccaaGreat
open Go.Eng
theorem Ap1 : pieceB Zt 0 100000 200 168 (takeC 3 bodyA15) AL0.st .normal AL1 = true := by kernel_rfl
end Go.Proofs.YtlbnfokedkpccaaGreat
