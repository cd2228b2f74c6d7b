import Derived.Test.YtlbnfokedkpccaaGreatSeat5
import Derived.Test.YtlbnfokedkpccaaGreatASeat5
set_option linter.all false
set_option maxRecDepth 100000
namespace Go.Proofs.YtlbnfokedkpccaaGreat
open Go.Eng
noncomputable def KC : Calls3 := knownC (calls Zt 100000 200) 15 lowHA 2310 (.bool true) AL5.st.h
theorem p7 : pieceC Zt 0 100000 KC 136 (sq1 (dropC 1 (sq2 (sq2 (dropC 3 (sq2 (dropC 5 body13))))))) L6.st .normal L7 = true := by kernel_rfl
end Go.Proofs.YtlbnfokedkpccaaGreat
