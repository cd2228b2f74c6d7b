/- What is said of single values and types holds: the closed statement ValueKnown answers true, in every world that holds the six listed variables, in whatever order regions are evaluated. -/
import Derived.Test.YtooppedofcpfeaaGreatDoorSeatQ1
import Derived.Test.YtooppedofcpfeaaGreatDoorSeatQ3
import Derived.Test.YtooppedofcpfeaaGreatDoorSeatQ5
import Derived.Test.YtooppedofcpfeaaGreatDoorSeatQ7
import Derived.Test.YtooppedofcpfeaaGreatDoorSeatQ9
import Derived.Test.YtooppedofcpfeaaGreatDoorSeatQ11
import Derived.Test.YtooppedofcpfeaaGreatDoorSeatQ13
import Derived.Test.YtooppedofcpfeaaGreatDoorSeatQ15
import Derived.Test.YtooppedofcpfeaaGreatDoorSeatQ17
import Derived.Test.YtooppedofcpfeaaGreatDoorSeatQ19
import Derived.Test.YtooppedofcpfeaaGreatDoorSeatQ21
import Derived.Test.YtooppedofcpfeaaGreatDoorSeat4
set_option linter.all false
set_option maxRecDepth 100000
namespace Go.Proofs.YtooppedofcpfeaaGreatDoor
open Go.Eng
section
variable [Shift] (B : Nat)
theorem h397 : 397 ≤ 2 ^ 30 := by decide
theorem t10 : Tri (par B) 0 397 b8 L5.st .normal L10.st := by
  rw [shapeb8]
  exact tri_seq (tri_piece (zok B) rfl h397 p6) (tri_seq (tri_block_n (tri_take (zok B) rfl h397 2 p7 (tri_take (zok B) rfl h397 2 p8 (tri_piece (zok B) rfl h397 p9)))) (tri_piece (zok B) rfl h397 p10))
theorem loop8 : TriL (par B) 0 397 b8 L3.st (.exit 8) L12.st :=
  triL_rounds (zok B) rfl h397 p4 (triL_rounds (zok B) rfl h397 p5 (triL_cons (t10 B) (triL_rounds (zok B) rfl h397 p11 (triL_rest (zok B) rfl h397 p12))))
theorem loop12 : TriL (par B) 0 397 b12 L15.st (.exit 12) L18.st :=
  triL_rounds (zok B) rfl h397 p16 (triL_rounds (zok B) rfl h397 p17 (triL_rest (zok B) rfl h397 p18))
theorem from13 : Tri (par B) 0 397 D13 L18.st .ret L22.st :=
  tri_take (zok B) rfl h397 2 p19 (tri_take (zok B) rfl h397 2 p20 (tri_take (zok B) rfl h397 6 p21 (tri_piece (zok B) rfl h397 p22)))
theorem from12 : Tri (par B) 0 397 D12 L14.st .ret L22.st := by
  rw [shape12]
  exact tri_seq (tri_seq (tri_piece (zok B) rfl h397 p15) (tri_block (tri_loop (loop12 B)))) (from13 B)
theorem from9 : Tri (par B) 0 397 D9 L12.st .ret L22.st :=
  tri_take (zok B) rfl h397 2 p13 (tri_take (zok B) rfl h397 1 p14 (from12 B))
theorem from8 : Tri (par B) 0 397 D8 L2.st .ret L22.st := by
  rw [shape8]
  exact tri_seq (tri_seq (tri_piece (zok B) rfl h397 p3) (tri_block (tri_loop (loop8 B)))) (from9 B)
theorem walk : Tri (par B) 0 397 body12 ⟨.e, h0, []⟩ .ret L22.st :=
  tri_take (zok B) rfl h397 7 p1 (tri_take (zok B) rfl h397 1 p2 (from8 B))
end
theorem fn12 : Zt.fn 12 = some Tryz.f12 := by kernel_rfl
theorem ntmps12' : Tryz.f12.ntmps = 397 := by kernel_rfl
theorem res12 : resultsOf Zt L22.st.h L22.st.T Tryz.f12.results.toList = some (.bool true) := by kernel_rfl
theorem known : Known := by
  intro W hL
  obtain ⟨sh, e, hR⟩ := start hL
  exact closed_tri (p := par W.heap.size) (l := L22) (zok W.heap.size) fn12 body12_eq (by rw [ntmps12']; exact walk W.heap.size) res12 hR rfl
theorem valueKnown_card : Rows.ValueKnownCardSaid := card known
end Go.Proofs.YtooppedofcpfeaaGreatDoor
