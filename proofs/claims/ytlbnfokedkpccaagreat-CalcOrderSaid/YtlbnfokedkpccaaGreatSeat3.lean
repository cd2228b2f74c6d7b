import Derived.Test.YtlbnfokedkpccaaGreatSeat2
set_option linter.all false
namespace Go.Proofs.YtlbnfokedkpccaaGreat
open Go.Eng Go.ChangeShapes
theorem h0_get (b : Nat) : h0.get b = none := rfl
/-- The world at the start, as it is followed. -/
theorem start_of {W : World} (_ : LaidCells W) : ∃ (_ : Shift) (e : Env), Rel (par W.heap.size) e h0 W := by
  let sh : Shift := ⟨fun _ => 0⟩
  let e : Env := ⟨fun _ => 0, fun _ => 0⟩
  refine ⟨sh, e, ⟨?_, ?_, ?_, ?_, ?_, ?_, Nat.le_refl _, Nat.le_refl _, Nat.le_refl _, by simp [h0], by simp [h0], ?_, ?_⟩⟩
  · intro b o hb; rw [h0_get] at hb; cases hb
  · intro b o hb; rw [h0_get] at hb; cases hb
  · intro b o hb; rw [h0_get] at hb; cases hb
  · intro b b' o o' hb; rw [h0_get] at hb; cases hb
  · intro g hg; exact absurd hg (Nat.not_lt_zero _)
  · intro b o hb; rw [h0_get] at hb; cases hb
  · intro b hb; exact absurd hb (Nat.not_lt_zero _)
  · intro b hb; exact absurd rfl hb
theorem start {W : World} (h : laidMetH Tryz.prog Rows.calcWordsRow.laid W) : ∃ (_ : Shift) (e : Env), Rel (par W.heap.size) e h0 W := start_of (laid_cells h)
end Go.Proofs.YtlbnfokedkpccaaGreat
