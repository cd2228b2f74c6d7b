import Derived.Test.YtppienkajfkapaaGreatDoorSeat5
import Derived.Test.YtppienkajfkapaaGreatDoorASeat5
set_option linter.all false
set_option maxRecDepth 100000
namespace Go.Proofs.YtppienkajfkapaaGreatDoor
open Go.Eng
noncomputable def KC : Calls3 := knownC (calls Zt 100000 200) 17 lowHA 3494 (.bool true) AL11.st.h
theorem p8 : pieceC Zt 1 100000 KC 166 (sq1 (dropC 7 (sq2 (dropC 2 (sq2 (dropC 6 body3)))))) L7.st .normal L8 = true := by kernel_rfl
end Go.Proofs.YtppienkajfkapaaGreatDoor
