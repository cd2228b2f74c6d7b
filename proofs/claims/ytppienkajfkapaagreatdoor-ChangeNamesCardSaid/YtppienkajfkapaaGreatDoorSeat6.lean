/- What is said of single cases holds: the closed statement ChangeNames answers true, in every world that holds the listed variables, in whatever order regions are evaluated. -/
import Derived.Test.YtppienkajfkapaaGreatDoorSeatP1
import Derived.Test.YtppienkajfkapaaGreatDoorASeat6
import Derived.Test.YtppienkajfkapaaGreatDoorSeatP2
import Derived.Test.YtppienkajfkapaaGreatDoorSeatP3
import Derived.Test.YtppienkajfkapaaGreatDoorSeatP4
import Derived.Test.YtppienkajfkapaaGreatDoorSeatP5
import Derived.Test.YtppienkajfkapaaGreatDoorSeatP6
import Derived.Test.YtppienkajfkapaaGreatDoorSeatP7
import Derived.Test.YtppienkajfkapaaGreatDoorSeatP8
import Derived.Test.YtppienkajfkapaaGreatDoorSeatP9
import Derived.Test.YtppienkajfkapaaGreatDoorSeat4
set_option linter.all false
set_option maxRecDepth 100000
namespace Go.Proofs.YtppienkajfkapaaGreatDoor
open Go.Eng
theorem walk [Shift] (B : Nat) : Tri (par B) 0 166 body3 ⟨.e, h0, []⟩ .ret L9.st :=
  (tri_take (zok B) rfl (show 166 ≤ 2 ^ 30 by decide) 6 p1 (show Tri (par B) 0 166 (dropC 6 body3) L1.st .ret L9.st from (tri_item rfl (tri_piece (zok B) rfl (show 166 ≤ 2 ^ 30 by decide) p2) (tri_take (zok B) rfl (show 166 ≤ 2 ^ 30 by decide) 1 p3 (show Tri (par B) 0 166 (dropC 1 (sq2 (dropC 6 body3))) L3.st .ret L9.st from (tri_take (zok B) rfl (show 166 ≤ 2 ^ 30 by decide) 1 p4 (show Tri (par B) 0 166 (dropC 2 (sq2 (dropC 6 body3))) L4.st .ret L9.st from (tri_item rfl (tri_piece (zok B) rfl (show 166 ≤ 2 ^ 30 by decide) p5) (tri_take (zok B) rfl (show 166 ≤ 2 ^ 30 by decide) 3 p6 (show Tri (par B) 0 166 (dropC 3 (sq2 (dropC 2 (sq2 (dropC 6 body3))))) L6.st .ret L9.st from (tri_take (zok B) rfl (show 166 ≤ 2 ^ 30 by decide) 4 p7 (show Tri (par B) 0 166 (dropC 7 (sq2 (dropC 2 (sq2 (dropC 6 body3))))) L7.st .ret L9.st from (tri_item rfl (tri_pieceC (zok B) rfl (show COk (par B) KC from knownC_ok (zok B) (calls_ok (zok B) 200) AfnA bodyA17_eq (fun n => by rw [AntmpsA]; exact Awalk B n) AresA) (show 166 ≤ 2 ^ 30 by decide) p8) (tri_piece (zok B) rfl (show 166 ≤ 2 ^ 30 by decide) p9))))))))))))))
theorem fnA : Zt.fn 3 = some Tryz.f3 := by kernel_rfl
theorem ntmpsA : Tryz.f3.ntmps = 166 := by kernel_rfl
theorem resA : resultsOf Zt L9.st.h L9.st.T Tryz.f3.results.toList = some (.bool true) := by kernel_rfl
theorem known : Known := by
  intro W hL
  obtain ⟨sh, e, hR⟩ := start hL
  exact closed_tri (p := par W.heap.size) (l := L9) (zok W.heap.size) fnA body3_eq (by rw [ntmpsA]; exact walk W.heap.size) resA hR rfl
theorem changeNames_card : Rows.ChangeNamesCardSaid := card known
end Go.Proofs.YtppienkajfkapaaGreatDoor
