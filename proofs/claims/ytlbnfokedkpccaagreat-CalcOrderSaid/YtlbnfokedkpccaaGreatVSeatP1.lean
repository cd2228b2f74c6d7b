import Derived.Test.YtlbnfokedkpccaaGreatVSeat5
set_option linter.all false
set_option maxRecDepth 100000
namespace Go.Proofs.YtlbnfokedkpccaaGreat
open Go.Eng
theorem Vp1 : pieceB Zt 0 100000 200 168 (takeC 2 bodyV15) ⟨.e, h0, []⟩ .normal VL1 = true := by kernel_rfl
end Go.Proofs.YtlbnfokedkpccaaGreat
