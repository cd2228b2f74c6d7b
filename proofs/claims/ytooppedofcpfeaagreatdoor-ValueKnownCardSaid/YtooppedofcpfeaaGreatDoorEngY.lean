/- A closed call, from the evaluator to what a row asks. -/
import Derived.Test.YtooppedofcpfeaaGreatDoorEngX
import Derived.Below
set_option linter.all false
namespace Go.Eng
variable [Shift]
open Go.RowKit
variable {p : Par} {e e' e'' : Env} {H H' : Heap} {w w' w'' : World} {Z : Tab}

theorem Step.below (h : Step p e H w e' H' w') (hB : p.B = w.heap.size) (hR : Rel p e H w) : Below w.heap.size w w' := by
  refine ⟨h.os, h.tape, h.output, h.size, fun k hk => h.keep k hk ?_⟩
  rintro ⟨b, o, hb, hn, hr⟩
  have := hR.own b o hb hn
  omega

/-- What the evaluator says of a call, of every fence for activations of functions. -/
theorem calls_of_run (hZ : TOk Z p) {fuel k : Nat} {f : FuncId} {args : List Value} {H' : Heap} {r : Res} (h : (calls Z fuel k).fn f args H = some (r, H')) (hR : Rel p e H w) (hu : ∀ a ∈ args, Und H.D a) :
    Calls p.P f (args.map (ren e)).toArray w (RPost p e H w r H') :=
  callsIn_wide.1 ((calls_ok hZ (fuel := fuel) k).fn f args H r H' h e w 0 hR hu)

theorem closed_true (hZ : TOk Z p) {fuel k : Nat} {f : FuncId} {H' : Heap} (h : (calls Z fuel k).fn f [] H = some (.ret (.bool true), H')) (hR : Rel p e H w) (hB : p.B = w.heap.size) :
    Calls p.P f #[] w fun en w' => en = .returned (.bool true) ∧ Below w.heap.size w w' := by
  have := calls_of_run hZ h hR (by simp)
  refine this.mono ?_
  rintro en w' ⟨e', hst, rfl, _⟩
  exact ⟨by simp, hst.below hB hR⟩
end Go.Eng
