/- What is said of single cases holds: the closed statement CalcNames answers true, in every world that holds the listed variables, in whatever order regions are evaluated. -/
import Derived.Test.YtlbnfokedkpccaaGreatASeat6
import Derived.Test.YtlbnfokedkpccaaGreatSeatP1
import Derived.Test.YtlbnfokedkpccaaGreatSeatP2
import Derived.Test.YtlbnfokedkpccaaGreatSeatP3
import Derived.Test.YtlbnfokedkpccaaGreatSeatP4
import Derived.Test.YtlbnfokedkpccaaGreatSeatP5
import Derived.Test.YtlbnfokedkpccaaGreatSeatP6
import Derived.Test.YtlbnfokedkpccaaGreatSeatP7
import Derived.Test.YtlbnfokedkpccaaGreatSeatP8
import Derived.Test.YtlbnfokedkpccaaGreatSeat4
set_option linter.all false
set_option maxRecDepth 100000
namespace Go.Proofs.YtlbnfokedkpccaaGreat
open Go.Eng
theorem walk [Shift] (B : Nat) : Tri (par B) 0 136 body13 ⟨.e, h0, []⟩ .ret L8.st :=
  (tri_take (zok B) rfl (show 136 ≤ 2 ^ 30 by decide) 5 p1 (show Tri (par B) 0 136 (dropC 5 body13) L1.st .ret L8.st from (tri_item rfl (tri_piece (zok B) rfl (show 136 ≤ 2 ^ 30 by decide) p2) (tri_take (zok B) rfl (show 136 ≤ 2 ^ 30 by decide) 3 p3 (show Tri (par B) 0 136 (dropC 3 (sq2 (dropC 5 body13))) L3.st .ret L8.st from (tri_item rfl (tri_piece (zok B) rfl (show 136 ≤ 2 ^ 30 by decide) p4) (tri_item rfl (tri_piece (zok B) rfl (show 136 ≤ 2 ^ 30 by decide) p5) (tri_take (zok B) rfl (show 136 ≤ 2 ^ 30 by decide) 1 p6 (show Tri (par B) 0 136 (dropC 1 (sq2 (sq2 (dropC 3 (sq2 (dropC 5 body13)))))) L6.st .ret L8.st from (tri_item rfl (tri_pieceC (zok B) rfl (show COk (par B) KC from knownC_ok (zok B) (calls_ok (zok B) 200) AfnA bodyA15_eq (fun n => by rw [AntmpsA]; exact Awalk B n) AresA) (show 136 ≤ 2 ^ 30 by decide) p7) (tri_piece (zok B) rfl (show 136 ≤ 2 ^ 30 by decide) p8)))))))))))
theorem fnA : Zt.fn 13 = some Tryz.f13 := by kernel_rfl
theorem ntmpsA : Tryz.f13.ntmps = 136 := by kernel_rfl
theorem resA : resultsOf Zt L8.st.h L8.st.T Tryz.f13.results.toList = some (.bool true) := by kernel_rfl
theorem known : Known := by
  intro W hL
  obtain ⟨sh, e, hR⟩ := start_of (show LaidCells W from trivial)
  exact closed_tri (p := par W.heap.size) (l := L8) (zok W.heap.size) fnA body13_eq (by rw [ntmpsA]; exact walk W.heap.size) resA hR rfl
theorem calcNames_card : Rows.CalcNamesSaid := said known
#print axioms calcNames_card
end Go.Proofs.YtlbnfokedkpccaaGreat
