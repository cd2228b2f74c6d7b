import Derived.Test.YtlbnfokedkpccaaGreatKSeat5
set_option linter.all false
set_option maxRecDepth 100000
namespace Go.Proofs.YtlbnfokedkpccaaGreat
open Go.Eng
theorem Kp1 : pieceB Zt 0 100000 200 29 bodyK48 ⟨.e, h0, []⟩ .ret KL1 = true := by kernel_rfl
end Go.Proofs.YtlbnfokedkpccaaGreat
