import Derived.Test.YtppienkajfkapaaGreatDoorASeatP1
import Derived.Test.YtppienkajfkapaaGreatDoorASeatP2
import Derived.Test.YtppienkajfkapaaGreatDoorASeatP3
import Derived.Test.YtppienkajfkapaaGreatDoorASeatP4
import Derived.Test.YtppienkajfkapaaGreatDoorASeatP5
import Derived.Test.YtppienkajfkapaaGreatDoorASeatP6
import Derived.Test.YtppienkajfkapaaGreatDoorASeatP7
import Derived.Test.YtppienkajfkapaaGreatDoorASeatP8
import Derived.Test.YtppienkajfkapaaGreatDoorASeatP9
import Derived.Test.YtppienkajfkapaaGreatDoorASeatP10
import Derived.Test.YtppienkajfkapaaGreatDoorASeatP11
set_option linter.all false
set_option maxRecDepth 100000
namespace Go.Proofs.YtppienkajfkapaaGreatDoor
open Go.Eng
theorem Awalk [Shift] (B : Nat) (n : Nat) : Tri (par B) n 202 bodyA17 AL0.st .ret AL11.st :=
  (tri_take (zok B) rfl (show 202 ≤ 2 ^ 30 by decide) 3 Ap1 (show Tri (par B) n 202 (dropC 3 bodyA17) AL1.st .ret AL11.st from (tri_item rfl (tri_piece (zok B) rfl (show 202 ≤ 2 ^ 30 by decide) Ap2) (tri_item rfl (tri_piece (zok B) rfl (show 202 ≤ 2 ^ 30 by decide) Ap3) (tri_item rfl (tri_piece (zok B) rfl (show 202 ≤ 2 ^ 30 by decide) Ap4) (tri_item rfl (tri_piece (zok B) rfl (show 202 ≤ 2 ^ 30 by decide) Ap5) (tri_take (zok B) rfl (show 202 ≤ 2 ^ 30 by decide) 3 Ap6 (show Tri (par B) n 202 (dropC 3 (sq2 (sq2 (sq2 (sq2 (dropC 3 bodyA17)))))) AL6.st .ret AL11.st from (tri_take (zok B) rfl (show 202 ≤ 2 ^ 30 by decide) 1 Ap7 (show Tri (par B) n 202 (dropC 4 (sq2 (sq2 (sq2 (sq2 (dropC 3 bodyA17)))))) AL7.st .ret AL11.st from (tri_item rfl (tri_piece (zok B) rfl (show 202 ≤ 2 ^ 30 by decide) Ap8) (tri_take (zok B) rfl (show 202 ≤ 2 ^ 30 by decide) 2 Ap9 (show Tri (par B) n 202 (dropC 2 (sq2 (dropC 4 (sq2 (sq2 (sq2 (sq2 (dropC 3 bodyA17)))))))) AL9.st .ret AL11.st from (tri_item rfl (tri_piece (zok B) rfl (show 202 ≤ 2 ^ 30 by decide) Ap10) (tri_piece (zok B) rfl (show 202 ≤ 2 ^ 30 by decide) Ap11)))))))))))))))
theorem AfnA : Zt.fn 17 = some Tryz.f17 := by kernel_rfl
theorem AntmpsA : Tryz.f17.ntmps = 202 := by kernel_rfl
theorem AresA : resultsOf Zt AL11.st.h AL11.st.T Tryz.f17.results.toList = some (.bool true) := by kernel_rfl
end Go.Proofs.YtppienkajfkapaaGreatDoor
