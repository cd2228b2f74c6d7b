import Derived.Test.YtlbnfokedkpccaaGreatASeatP1
import Derived.Test.YtlbnfokedkpccaaGreatASeatP2
import Derived.Test.YtlbnfokedkpccaaGreatASeatP3
import Derived.Test.YtlbnfokedkpccaaGreatASeatP4
import Derived.Test.YtlbnfokedkpccaaGreatASeatP5
set_option linter.all false
set_option maxRecDepth 100000
namespace Go.Proofs.YtlbnfokedkpccaaGreat
open Go.Eng
theorem Awalk [Shift] (B : Nat) (n : Nat) : Tri (par B) n 168 bodyA15 AL0.st .ret AL5.st :=
  (tri_take (zok B) rfl (show 168 ≤ 2 ^ 30 by decide) 3 Ap1 (show Tri (par B) n 168 (dropC 3 bodyA15) AL1.st .ret AL5.st from (tri_take (zok B) rfl (show 168 ≤ 2 ^ 30 by decide) 3 Ap2 (show Tri (par B) n 168 (dropC 6 bodyA15) AL2.st .ret AL5.st from (tri_item rfl (tri_piece (zok B) rfl (show 168 ≤ 2 ^ 30 by decide) Ap3) (tri_take (zok B) rfl (show 168 ≤ 2 ^ 30 by decide) 2 Ap4 (show Tri (par B) n 168 (dropC 2 (sq2 (dropC 6 bodyA15))) AL4.st .ret AL5.st from (tri_piece (zok B) rfl (show 168 ≤ 2 ^ 30 by decide) Ap5))))))))
theorem AfnA : Zt.fn 15 = some Tryz.f15 := by kernel_rfl
theorem AntmpsA : Tryz.f15.ntmps = 168 := by kernel_rfl
theorem AresA : resultsOf Zt AL5.st.h AL5.st.T Tryz.f15.results.toList = some (.bool true) := by kernel_rfl
end Go.Proofs.YtlbnfokedkpccaaGreat
