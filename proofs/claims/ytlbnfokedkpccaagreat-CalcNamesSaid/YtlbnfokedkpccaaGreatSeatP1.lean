import Derived.Test.YtlbnfokedkpccaaGreatSeat5
set_option linter.all false
set_option maxRecDepth 100000
namespace Go.Proofs.YtlbnfokedkpccaaGreat
open Go.Eng
theorem p1 : pieceB Zt 0 100000 200 136 (takeC 5 body13) ⟨.e, h0, []⟩ .normal L1 = true := by kernel_rfl
end Go.Proofs.YtlbnfokedkpccaaGreat
