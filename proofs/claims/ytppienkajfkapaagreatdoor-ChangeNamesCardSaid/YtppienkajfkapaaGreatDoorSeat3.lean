import Derived.Test.YtppienkajfkapaaGreatDoorSeat2
set_option linter.all false
namespace Go.Proofs.YtppienkajfkapaaGreatDoor
open Go.Eng Go.ChangeShapes

theorem h0_get (b : Nat) : h0.get b = if b = 0 then some (.cells cells0 0 (0,0) false) else none := by
  unfold h0 Heap.get
  simp only
  rw [Tr.get_set _ _ _ _ (by omega)]
  rfl
theorem plain0 : cells0.all (plain 3) = true := by kernel_rfl
theorem map_plain [Shift] {e : Env} {l : List Value} (h : l.all (plain 3) = true) : l.map (ren e) = l := by
  conv => rhs; rw [← List.map_id l]
  exact List.map_congr_left fun v hv => ren_plain 3 v (List.all_eq_true.1 h v hv)

set_option maxRecDepth 100000 in
/-- The world at the start, as it is followed. -/
theorem start_of {W : World} (h : LaidCells W) : ∃ (_ : Shift) (e : Env), Rel (par W.heap.size) e h0 W := by
  obtain ⟨el0, fz0, b0⟩ := h
  have place : ∀ {a : Addr}, (W.cell? a).isSome = true → a.spot = none ∧ a.block < W.heap.size := by
    intro a ha
    unfold World.cell? at ha
    split at ha
    · rename_i c el fz hc
      refine ⟨?_, (Array.getElem?_eq_some_iff.1 hc).1⟩
      split at ha
      · cases ha
      · rename_i hs; simpa using hs
    · cases ha
  have hB : 0 < W.heap.size := (Array.getElem?_eq_some_iff.1 b0).1
  let sh : Shift := ⟨fun b => 0⟩
  let e : Env := ⟨fun b => if b < 1 then b else 0, fun _ => 0⟩
  have hu : ∀ b, b < 9 → h0.D b := fun b hb => ⟨hb, by simp [h0]⟩
  have low : ∀ b o, h0.get b = some o → b < 1 := by
    intro b o hb
    rw [h0_get] at hb
    repeat' split at hb
    all_goals first | (cases hb; done) | omega
  have row : ∀ {l : List Value} {r : Obj} {b : Nat} {el : TypeId} {fz : Nat × Nat} {el0 : TypeId}, b < 9 → r = .cells (l.map (ren e)).toArray el fz → ORel (par W.heap.size) e b (.cells l el0 (0, 0) false) r := by
    intro l r b el fz el0 hb hr
    exact ⟨#[], el, fz, by simp [hr], fun _ => ⟨rfl, rfl⟩, fun hn => absurd hn (by simp [par]; omega), fun hg => by cases hg⟩
  refine ⟨sh, e, ⟨?_, ?_, ?_, ?_, ?_, ?_, Nat.le_refl _, Nat.le_refl _, by simp [par], by simp [h0], by simp [h0], ?_, ?_⟩⟩
  · intro b o hb
    have hb7 := low b o hb
    have hρ : e.ρ b = b := by
      simp [e, hb7]
    rw [hρ]
    rw [h0_get] at hb
    split at hb
    · rename_i hx; subst hx; cases hb
      exact ⟨_, b0, row (by omega) (by rw [map_plain plain0])⟩
    · cases hb
  · intro b o hb
    have pl : ∀ {l : List Value}, l.all (plain 3) = true → ∀ v ∈ l, Und h0.D v := fun h v hv => und_plain (List.all_eq_true.1 h v hv)
    rw [h0_get] at hb
    split at hb
    · cases hb; exact pl plain0
    · cases hb
  · intro b o hb
    exact hu b (by have := low b o hb; omega)
  · intro b b' o o' hb hb' heq
    have h1 := low b o hb
    have h2 := low b' o' hb'
    have e1 : e.ρ b = b := by simp [e, h1]
    have e2 : e.ρ b' = b' := by simp [e, h2]
    rw [e1, e2] at heq; exact heq
  · intro g hg
    have hg' : g < 1 := hg
    exact ⟨by simp [e, hg'], rfl⟩
  · intro b o hb hn
    have h1 := low b o hb
    have h2 : 9 ≤ b := hn
    omega
  · intro b hb
    show e.ρ b < W.heap.size
    simp only [e]
    split
    · rename_i hx; have hx' : b < 1 := hx; show b < _; omega
    · exact hB
  · intro b hb
    exact absurd rfl hb
theorem start {W : World} (h : laidMetH Tryz.prog Rows.changeNamesRow.laid W) : ∃ (_ : Shift) (e : Env), Rel (par W.heap.size) e h0 W := start_of (laid_cells h)
end Go.Proofs.YtppienkajfkapaaGreatDoor
