import Derived.Test.YtlbnfokedkpccaaGreatSeat5
set_option linter.all false
set_option maxRecDepth 100000
namespace Go.Proofs.YtlbnfokedkpccaaGreat
open Go.Eng
theorem p8 : pieceB Zt 0 100000 200 136 (sq2 (dropC 1 (sq2 (sq2 (dropC 3 (sq2 (dropC 5 body13))))))) L7.st .ret L8 = true := by kernel_rfl
end Go.Proofs.YtlbnfokedkpccaaGreat
