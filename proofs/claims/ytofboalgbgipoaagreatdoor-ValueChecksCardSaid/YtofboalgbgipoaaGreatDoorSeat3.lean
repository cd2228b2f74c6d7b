import Derived.Test.YtofboalgbgipoaaGreatDoorSeat2
set_option linter.all false
namespace Go.Proofs.YtofboalgbgipoaaGreatDoor
open Go.Eng Go.ChangeShapes

theorem h0_get (b : Nat) : h0.get b = if b = 6 then some (.cells lcells6 0 (0,0) false) else if b = 5 then some (.cells lcells5 0 (0,0) false) else if b = 4 then some (.cells lcells4 0 (0,0) false) else if b = 3 then some (.cells [.iface 149 (.pointer (some ⟨8,0,none⟩))] 0 (0,0) false) else if b = 2 then some (.cells [.iface 149 (.pointer (some ⟨7,0,none⟩))] 0 (0,0) false) else if b = 0 then some (.cells lcells0 0 (0,0) false) else none := by
  unfold h0 Heap.get
  simp only
  rw [Tr.get_set _ _ _ _ (by omega), Tr.get_set _ _ _ _ (by omega), Tr.get_set _ _ _ _ (by omega), Tr.get_set _ _ _ _ (by omega), Tr.get_set _ _ _ _ (by omega), Tr.get_set _ _ _ _ (by omega)]
  rfl
theorem plain0 : lcells0.all (plain 3) = true := by kernel_rfl
theorem plain4 : lcells4.all (plain 3) = true := by kernel_rfl
theorem plain5 : lcells5.all (plain 3) = true := by kernel_rfl
theorem plain6 : lcells6.all (plain 3) = true := by kernel_rfl
theorem map_plain [Shift] {e : Env} {l : List Value} (h : l.all (plain 3) = true) : l.map (ren e) = l := by
  conv => rhs; rw [← List.map_id l]
  exact List.map_congr_left fun v hv => ren_plain 3 v (List.all_eq_true.1 h v hv)

set_option maxRecDepth 100000 in
/-- The world at the start, as it is followed. -/
theorem start_of {W : World} (h : LaidCells W) : ∃ (_ : Shift) (e : Env), Rel (par W.heap.size) e h0 W := by
  obtain ⟨⟨el0, fz0, b0⟩, ⟨a2, el2, fz2, b2, c2⟩, ⟨a3, el3, fz3, b3, c3⟩, ⟨el4, fz4, b4⟩, ⟨el5, fz5, b5⟩, ⟨el6, fz6, b6⟩⟩ := h
  have place : ∀ {a : Addr}, (W.cell? a).isSome = true → a.spot = none ∧ a.block < W.heap.size := by
    intro a ha
    unfold World.cell? at ha
    split at ha
    · rename_i c el fz hc
      refine ⟨?_, (Array.getElem?_eq_some_iff.1 hc).1⟩
      split at ha
      · cases ha
      · rename_i hs; simpa using hs
    · cases ha
  obtain ⟨s2, l2⟩ := place c2
  obtain ⟨s3, l3⟩ := place c3
  have hB : 6 < W.heap.size := (Array.getElem?_eq_some_iff.1 b6).1
  let sh : Shift := ⟨fun b => if b = 7 then a2.off else if b = 8 then a3.off else 0⟩
  let e : Env := ⟨fun b => if b = 7 then a2.block else if b = 8 then a3.block else if b < 7 then b else 0, fun _ => 0⟩
  have hr2 : ren e (.iface 149 (.pointer (some ⟨7, 0, none⟩))) = .iface 149 (.pointer (some a2)) := by
    obtain ⟨b, o, s⟩ := a2
    simp only at s2
    subst s2
    simp [Env.addr, e, sh, Shift.δ]
  have hr3 : ren e (.iface 149 (.pointer (some ⟨8, 0, none⟩))) = .iface 149 (.pointer (some a3)) := by
    obtain ⟨b, o, s⟩ := a3
    simp only at s3
    subst s3
    simp [Env.addr, e, sh, Shift.δ]
  have hu : ∀ b, b < 9 → h0.D b := fun b hb => ⟨hb, by simp [h0]⟩
  have low : ∀ b o, h0.get b = some o → b < 7 := by
    intro b o hb
    rw [h0_get] at hb
    repeat' split at hb
    all_goals first | (cases hb; done) | omega
  have row : ∀ {l : List Value} {r : Obj} {b : Nat} {el : TypeId} {fz : Nat × Nat} {el0 : TypeId}, b < 9 → r = .cells (l.map (ren e)).toArray el fz → ORel (par W.heap.size) e b (.cells l el0 (0, 0) false) r := by
    intro l r b el fz el0 hb hr
    exact ⟨#[], el, fz, by simp [hr], fun _ => ⟨rfl, rfl⟩, fun hn => absurd hn (by simp [par]; omega), fun hg => by cases hg⟩
  refine ⟨sh, e, ⟨?_, ?_, ?_, ?_, ?_, ?_, Nat.le_refl _, Nat.le_refl _, by simp [par], by simp [h0], by simp [h0], ?_, ?_⟩⟩
  · intro b o hb
    have hb7 := low b o hb
    have hρ : e.ρ b = b := by
      have h0 : b ≠ 7 := by omega
      have h1 : b ≠ 8 := by omega
      simp [e, h0, h1, hb7]
    rw [hρ]
    rw [h0_get] at hb
    split at hb
    · rename_i hx; subst hx; cases hb
      exact ⟨_, b6, row (by omega) (by rw [map_plain plain6])⟩
    split at hb
    · rename_i hx; subst hx; cases hb
      exact ⟨_, b5, row (by omega) (by rw [map_plain plain5])⟩
    split at hb
    · rename_i hx; subst hx; cases hb
      exact ⟨_, b4, row (by omega) (by rw [map_plain plain4])⟩
    split at hb
    · rename_i hx; subst hx; cases hb
      exact ⟨_, b3, row (by omega) (by rw [List.map_cons, List.map_nil, hr3])⟩
    split at hb
    · rename_i hx; subst hx; cases hb
      exact ⟨_, b2, row (by omega) (by rw [List.map_cons, List.map_nil, hr2])⟩
    split at hb
    · rename_i hx; subst hx; cases hb
      exact ⟨_, b0, row (by omega) (by rw [map_plain plain0])⟩
    · cases hb
  · intro b o hb
    have pl : ∀ {l : List Value}, l.all (plain 3) = true → ∀ v ∈ l, Und h0.D v := fun h v hv => und_plain (List.all_eq_true.1 h v hv)
    rw [h0_get] at hb
    split at hb
    · cases hb; exact pl plain6
    split at hb
    · cases hb; exact pl plain5
    split at hb
    · cases hb; exact pl plain4
    split at hb
    · cases hb
      intro v hv
      simp only [List.mem_singleton] at hv
      subst hv
      exact und_iface (und_ptr (hu 8 (by omega)))
    split at hb
    · cases hb
      intro v hv
      simp only [List.mem_singleton] at hv
      subst hv
      exact und_iface (und_ptr (hu 7 (by omega)))
    split at hb
    · cases hb; exact pl plain0
    · cases hb
  · intro b o hb
    exact hu b (by have := low b o hb; omega)
  · intro b b' o o' hb hb' heq
    have h1 := low b o hb
    have h2 := low b' o' hb'
    have e1 : e.ρ b = b := by simp [e, show b ≠ 7 by omega, show b ≠ 8 by omega, h1]
    have e2 : e.ρ b' = b' := by simp [e, show b' ≠ 7 by omega, show b' ≠ 8 by omega, h2]
    rw [e1, e2] at heq; exact heq
  · intro g hg
    have hg' : g < 7 := hg
    exact ⟨by simp [e, show g ≠ 7 by omega, show g ≠ 8 by omega, hg'], rfl⟩
  · intro b o hb hn
    have h1 := low b o hb
    have h2 : 9 ≤ b := hn
    omega
  · intro b hb
    have hb' : b < 9 := hb
    show e.ρ b < W.heap.size
    simp only [e]
    repeat' split
    all_goals omega
  · intro b hb
    have hb' : (if b = 7 then a2.off else if b = 8 then a3.off else 0) ≠ 0 := hb
    have hbb : b = 7 ∨ b = 8 := by
      repeat' split at hb'
      all_goals omega
    have hn : h0.get b = none := by
      cases hg : h0.get b with
      | none => rfl
      | some o => have := low b o hg; omega
    refine ⟨?_, ?_, hn⟩
    · show 7 ≤ b; omega
    · show b < 9; omega
theorem start {W : World} (h : laidMetH Tryz.prog Rows.valueLeastRow.laid W) : ∃ (_ : Shift) (e : Env), Rel (par W.heap.size) e h0 W := start_of (laid_cells h)
end Go.Proofs.YtofboalgbgipoaaGreatDoor
