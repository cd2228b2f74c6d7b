import Derived.Test.YtppienkajfkapaaGreatDoorSeat1
import Derived.Test.YtppienkajfkapaaGreatDoorCards
import Derived.Test.YtppienkajfkapaaGreatDoorTie
import Derived.MakeChecks
set_option linter.all false
namespace Go.Proofs.YtppienkajfkapaaGreatDoor
open Go.Eng Go.ChangeShapes
theorem var_block {P : Program} {w : World} {n : String} {g : Nat} {cs : Array Value} (hg : P.globalNamed n = some g) (h : w.var? P n = some cs) : ∃ el fz, w.heap[g]? = some (.cells cs el fz) := by
  unfold World.var? at h
  rw [hg] at h
  simp only [Option.bind_some] at h
  split at h
  · rename_i c el fz hc
    cases h
    exact ⟨el, fz, hc⟩
  · cases h

/-- What the list gives, cell by cell. -/
def LaidCells (W : World) : Prop :=
    (∃ el fz, W.heap[0]? = some (.cells cells0.toArray el fz))
set_option maxRecDepth 100000 in
/-- What the list gives, cell by cell. -/
theorem laid_cells {W : World} (h : laidMetH Tryz.prog Rows.changeNamesRow.laid W) :
    LaidCells W := by
  rw [MakeChecks.laidMetH_plain _ _ _ (by kernel_rfl)] at h
  obtain ⟨ps, ⟨g1, t1, c1, f1, p1, q1, hg1, ht1, hv1, hd1, hq1, e1⟩, _, hrows⟩ := h
  obtain rfl := Option.some.inj ((show Tryz.prog.globalNamed "deltaworks/change.needed" = some 0 by kernel_rfl).symm.trans hg1)
  obtain rfl := Option.some.inj ((show (Tryz.prog.globals[0]?).map (·.type) = some 112 by kernel_rfl).symm.trans ht1)
  have k1 := flatD_sound 5 _ _ _ _ _ cells0 hd1 (by kernel_rfl) (by kernel_rfl)
  have arr : ∀ {c : Array Value} {l : List Value}, c.toList = l → c = l.toArray := fun h => by rw [← h]
  obtain ⟨el1, fz1, b1⟩ := var_block hg1 hv1
  rw [arr k1] at b1
  exact ⟨_, _, b1⟩
/-- What lies there still lies there. -/
theorem laid_keep {W W' : World} (h : LaidCells W) (hb : Go.RowKit.Below W.heap.size W W') : LaidCells W' := by
  obtain ⟨el0, fz0, b0⟩ := h
  have k : ∀ {b : Nat} {c : Array Value} {el : TypeId} {fz : Nat × Nat}, W.heap[b]? = some (.cells c el fz) → W'.heap[b]? = some (.cells c el fz) := fun h => (hb.block _ (Array.getElem?_eq_some_iff.1 h).1).trans h
  have kc : ∀ {a : Addr}, (W.cell? a).isSome = true → (W'.cell? a).isSome = true := by
    intro a ha
    have hlt : a.block < W.heap.size := by
      unfold World.cell? at ha
      split at ha
      · rename_i hh; exact (Array.getElem?_eq_some_iff.1 hh).1
      · cases ha
    rw [hb.cell (p := a) hlt]; exact ha
  exact ⟨_, _, k b0⟩
end Go.Proofs.YtppienkajfkapaaGreatDoor
