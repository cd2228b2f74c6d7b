/- The walk of the statement CalcOrder: lists that are too long. -/
import Derived.Test.YtlbnfokedkpccaaGreatOrda
set_option linter.all false
namespace Go.Proofs.YtlbnfokedkpccaaGreat
open Go.RowKit Go.Shelf
attribute [local go_sem] Oper.semAt_some

set_option maxRecDepth 100000 in
set_option maxHeartbeats 2000000 in
theorem CalcOrder_far (a1 a2 a3 : Option Addr) (n1 c1 n2 c2 n3 c3 : Nat) (w : World)
    (hv : ∀ W, Below w.heap.size w W → Calls Tryz.prog 15 #[] W fun e W' => e = .returned (.bool true) ∧ Below W.heap.size W W') (h : (60 : Int) < n1 ∨ (60 : Int) < n2 ∨ (60 : Int) < n3) :
    Calls Tryz.prog 12 #[.slice a1 n1 c1, .slice a2 n2 c2, .slice a3 n3 c3] w fun e w' => e = .returned (.bool true) ∧ Below w.heap.size w w' := by
  have HV := Lib.hid hv
  clear hv
  by_cases g1 : (60 : Int) < n1
  · clear h
    go_enter Tryz.func12, Tryz.ntmps12
    go_wp2_with (go_at_call 15; refine (HV.out _ (Below.refl _ _)).mono ?_; rintro e W1 ⟨rfl, H1⟩)
    go_ret
    exact ⟨rfl, H1⟩
  · by_cases g2 : (60 : Int) < n2
    · clear h
      go_enter Tryz.func12, Tryz.ntmps12
      go_wp2_with (go_at_call 15; refine (HV.out _ (Below.refl _ _)).mono ?_; rintro e W1 ⟨rfl, H1⟩)
      go_ret
      exact ⟨rfl, H1⟩
    · have g3 : (60 : Int) < n3 := by omega
      clear h
      go_enter Tryz.func12, Tryz.ntmps12
      go_wp2_with (go_at_call 15; refine (HV.out _ (Below.refl _ _)).mono ?_; rintro e W1 ⟨rfl, H1⟩)
      go_ret
      exact ⟨rfl, H1⟩
end Go.Proofs.YtlbnfokedkpccaaGreat
