/- The least value of a type, as the program makes it. -/
import Derived.Test.YtofboalgbgipoaaGreatDoorLstb
set_option linter.all false
namespace Go.Proofs.YtofboalgbgipoaaGreatDoor
open Go.RowKit Go.Shelf
attribute [local go_sem] Oper.semAt_some

theorem take_set4 {α : Type} (cs : List α) (n : Nat) (a b c d : α) (h : n + 4 ≤ cs.length) : ((((cs.set n a).set (n + 1) b).set (n + 2) c).set (n + 3) d).take (n + 4) = cs.take n ++ [a, b, c, d] := by
  apply List.ext_getElem?
  intro i
  by_cases h1 : i < n
  · rw [List.getElem?_take, if_pos (by omega), List.getElem?_append_left (by simp; omega), List.getElem?_take, if_pos h1]
    simp only [List.getElem?_set]
    rw [if_neg (by omega), if_neg (by omega), if_neg (by omega), if_neg (by omega)]
  · by_cases h2 : i < n + 4
    · rw [List.getElem?_take, if_pos (by omega), List.getElem?_append_right (by simp; omega)]
      simp only [List.getElem?_set, List.length_set, List.length_take]
      rcases (show i = n ∨ i = n + 1 ∨ i = n + 2 ∨ i = n + 3 by omega) with rfl | rfl | rfl | rfl
      · simp [show min i cs.length = i by omega]; omega
      · simp [show min n cs.length = n by omega]; omega
      · simp [show min n cs.length = n by omega]; omega
      · simp [show min n cs.length = n by omega]; omega
    · rw [List.getElem?_eq_none (by simp; omega), List.getElem?_eq_none (by simp; omega)]
/-- The first k values of a row of eight, block R. -/
structure Room (R : Nat) (k : Nat) (l : List LT) (W : World) : Prop where
  len : l.length = k
  ex : ∃ cs : List Value, cs.length = 32 ∧ W.heap[R]? = some (.cells cs.toArray 74 (0, 0)) ∧ cs.take (k * 4) = cellsV l
theorem Room.at {R k : Nat} {l : List LT} {W : World} (h : Room R k l W) (i : Nat) (hi : i < 32) : (∃ v, W.cell? ⟨R, i, none⟩ = some v) ∧ W.frozen? ⟨R, i, none⟩ = false := by
  obtain ⟨cs, h1, h2, h3⟩ := h.ex
  unfold World.cell? World.frozen?
  simp only [h2]
  exact ⟨⟨cs[i], by simp [show i < cs.length by omega]⟩, by simp⟩
theorem Room.keep {R k : Nat} {l : List LT} {W W' : World} (h : Room R k l W) (hb : Below W.heap.size W W') : Room R k l W' := by
  obtain ⟨cs, h1, h2, h3⟩ := h.ex
  exact ⟨h.len, cs, h1, (hb.block _ (Array.getElem?_eq_some_iff.1 h2).1).trans h2, h3⟩
theorem Room.put {R k : Nat} {l : List LT} {W : World} (h : Room R k l W) (hk : k < 8) (c : LT) :
    Room R (k + 1) (l ++ [c]) ((((W.setCell ⟨R, k * 4, none⟩ (.int .i64 c.node.k)).setCell ⟨R, k * 4 + 1, none⟩ (.int .i64 c.node.n)).setCell ⟨R, k * 4 + 2, none⟩ (.string c.node.s)).setCell ⟨R, k * 4 + 3, none⟩ (.slice c.node.a c.node.len c.node.cap)) := by
  obtain ⟨cs, h1, h2, h3⟩ := h.ex
  refine ⟨by simp [h.len], _, ?_, setOneAt (setOneAt (setOneAt (setOneAt h2 (List.setIfInBounds_toArray ..)) (List.setIfInBounds_toArray ..)) (List.setIfInBounds_toArray ..)) (List.setIfInBounds_toArray ..), ?_⟩
  · simp [h1]
  · rw [show (k + 1) * 4 = k * 4 + 4 by omega, take_set4 _ _ _ _ _ _ (by omega), h3, cellsV_snoc]
    rfl
theorem cellsV_len (l : List LT) : (cellsV l).length = l.length * 4 := by
  induction l with
  | nil => rfl
  | cons c l ih => simp [cellsV, nodeCells] at ih ⊢; omega
theorem cellsV_one (l : List LT) : ∀ v ∈ cellsV l, v.oneCell' = true := by
  intro v hv
  simp only [cellsV, List.mem_flatMap] at hv
  obtain ⟨c, _, hc⟩ := hv
  simp [nodeCells] at hc
  rcases hc with rfl | rfl | rfl | rfl <;> rfl
theorem Room.src {R k : Nat} {l : List LT} {W : World} (h : Room R k l W) (j : Nat) (v : Value) (hj : (cellsV l)[j]? = some v) : W.cell? ⟨R, 0 + j, none⟩ = some v := by
  obtain ⟨cs, h1, h2, h3⟩ := h.ex
  rw [← h3, List.getElem?_take] at hj
  split at hj
  · rw [Nat.zero_add]
    unfold World.cell?
    simp only [h2]
    simpa using hj
  · cases hj
/-- A new row of values is a list of them. -/
theorem isV_row {S : Nat → Prop} {W : World} {g : Nat} {l : List LT} {t : TypeId} (x : Node) (hg : W.heap[g]? = some (.cells (cellsV l).toArray t (0, 0))) (hx : x.a = some ⟨g, 0, none⟩) (hl : x.len = l.length) (h8 : l.length ≤ 8) (hs : x.s = ByteArray.empty) (hS : S g) (hk : ∀ c ∈ l, IsV S W c) : IsV S W (.mk x l) := by
  refine .mk _ _ hl (by rw [hs]; simp [maxLen]) (by omega) (fun i c hi => ?_) hk
  obtain ⟨h0, h1, h2, h3⟩ := cellsV_at hi
  exact ⟨g, hx, hS, by simpa [World.cell?, hg] using h0, by simpa [World.cell?, hg] using h1, by simpa [World.cell?, hg] using h2, by simpa [World.cell?, hg] using h3⟩
end Go.Proofs.YtofboalgbgipoaaGreatDoor
