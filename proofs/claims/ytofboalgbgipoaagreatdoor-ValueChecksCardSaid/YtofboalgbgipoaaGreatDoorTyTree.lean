/- A type that came in, as a tree. -/
import Derived.Test.YtofboalgbgipoaaGreatDoorTree
import Derived.Test.YtofboalgbgipoaaGreatDoorTypb
set_option linter.all false
namespace Go.Proofs.YtofboalgbgipoaaGreatDoor
open Go.RowKit Go.Shelf Go.WideShapes
section
variable {H : Type} {enc : TypeId × Value → H}
theorem cellsT_tys : Tryz.prog.cellsOf 25 = 1 := by kernel_rfl
theorem cellsT_ty : Tryz.prog.cellsOf 27 = 2 := by kernel_rfl
theorem bytesT_ty : Tryz.prog.bytesOf 27 = 32 := by kernel_rfl
theorem two_of {α : Type} : ∀ {l : List α}, l.length = 2 → ∃ a b, l = [a, b]
  | [a, b], _ => ⟨a, b, rfl⟩
theorem type_of {W : World} : ∀ (fuel : Nat) (cs : List Value) (d : DataW H) (p : List MemPlace),
    DataW.trod enc Tryz.prog W 0 (fun _ => true) true fuel 27 cs = some (d, p) → (d.weights Tryz.prog 27).all (fun n => decide (n ≤ reachBytes)) = true →
    ∃ T : YT, cs = [.int .i64 T.node.k, .slice T.node.a T.node.len T.node.cap] ∧ IsY W.heap.size W T := by
  intro fuel
  induction fuel using Nat.strongRecOn with
  | _ fuel ih =>
  intro cs d p h hw
  obtain ⟨xs, n, rfl, hx, hl, hxl, hf⟩ := DataW.trod_struct Tryz.underlying27 h
  rw [cellsT_ty] at hl
  obtain ⟨v0, v3, rfl⟩ := two_of hl
  obtain ⟨y0, y3, rfl⟩ := two_of hxl
  have h0 : DataW.trod enc Tryz.prog W 0 (fun _ => true) true n 3 [v0] = some y0 := by
    have := hf 0 _ rfl
    change DataW.trod enc Tryz.prog W 0 (fun _ => true) true n 3 (List.take (Tryz.prog.cellsOf 3) [v0, v3]) = some y0 at this
    rw [cellsT_int] at this
    exact this
  have h3 : DataW.trod enc Tryz.prog W 0 (fun _ => true) true n 25 [v3] = some y3 := by
    have := hf 1 _ rfl
    change DataW.trod enc Tryz.prog W 0 (fun _ => true) true n 25 (List.take (Tryz.prog.cellsOf 25) [v3]) = some y3 at this
    rw [cellsT_tys] at this
    exact this
  obtain ⟨k, e0, _, _⟩ := DataW.trod_int Tryz.underlying3 h0
  simp only [Prod.mk.injEq] at hx
  have hw3 : (y3.1.weights Tryz.prog 25).all (fun n => decide (n ≤ reachBytes)) = true := by
    rw [hx.1] at hw
    simp only [DataW.weights, Tryz.underlying27, List.map_cons, List.map_nil, DataW.weightsEach, List.all_append, Bool.and_eq_true] at hw
    exact hw.2.1
  rcases DataW.trod_slice Tryz.underlying25 h3 with ⟨e3, he3⟩ | ⟨a, len, cap, elems, rest, m, hm, e3, hx3, hb, hlc, hcap, hlen, hel, hsp, _⟩
  · refine ⟨.mk ⟨k, none, 0, 0⟩ [], ?_, .mk _ _ rfl (by simp) (fun i c hi => by simp at hi) (fun c hc => by cases hc)⟩
    cases e0; cases e3; rfl
  · rw [hx3] at hw3
    simp only [DataW.weights, Tryz.underlying25, List.all_cons, List.all_append, Bool.and_eq_true, decide_eq_true_eq, List.length_map, bytesT_ty] at hw3
    obtain ⟨hwl, hwe, _⟩ := hw3
    have key : ∀ i : Fin len, ∃ T : YT, (∃ cs', W.cells? 0 (a.add (i.1 * 2)) 2 = some cs' ∧ cs' = [.int .i64 T.node.k, .slice T.node.a T.node.len T.node.cap]) ∧ IsY W.heap.size W T := by
      intro i
      have hi := hel i.1 i.2
      rw [cellsT_ty, List.getElem?_eq_getElem (by rw [hlen]; exact i.2)] at hi
      obtain ⟨cs', hc1, hc2⟩ := Option.bind_eq_some_iff.1 hi
      obtain ⟨T, hT1, hT2⟩ := ih m (by omega) cs' (elems[i.1]'(by rw [hlen]; exact i.2)).1 _ hc2 (weightsAll_mem hwe (List.mem_map_of_mem (List.getElem_mem _)))
      exact ⟨T, ⟨cs', hc1, hT1⟩, hT2⟩
    obtain ⟨f, hf⟩ := Classical.axiomOfChoice key
    have hcell : ∀ i : Fin len, ∃ b off, some a = some (⟨b, off, none⟩ : Addr) ∧ b < W.heap.size ∧ W.cell? ⟨b, off + i.1 * 2, none⟩ = some (.int .i64 (f i).node.k) ∧ W.cell? ⟨b, off + i.1 * 2 + 1, none⟩ = some (.slice (f i).node.a (f i).node.len (f i).node.cap) := by
      intro i
      obtain ⟨⟨cz, hz1, hz2⟩, _⟩ := hf ⟨0, by have := i.2; omega⟩
      obtain ⟨_, _, hz3⟩ := World.cells?_some hz1
      have hz := hz3 0 (by omega)
      rw [hz2] at hz
      simp only [Nat.zero_mul, List.getElem?_cons_zero] at hz
      rw [show (a.add 0).add 0 = a by simp [Addr.add]] at hz
      have hsp0 := spot_none hz
      obtain ⟨b, o, sp⟩ := a
      simp only at hsp0
      subst hsp0
      obtain ⟨⟨cs', hc1, hc2⟩, _⟩ := hf i
      obtain ⟨_, _, hc3⟩ := World.cells?_some hc1
      have q0 := hc3 0 (by omega)
      have q1 := hc3 1 (by omega)
      rw [hc2] at q0 q1
      simp only [add_plain, Nat.add_zero, List.getElem?_cons_zero, List.getElem?_cons_succ] at q0 q1
      exact ⟨b, o, rfl, cell_lt hz, q0, q1⟩
    have hget : ∀ (i : Nat) (c : YT), (List.ofFn f)[i]? = some c → ∃ h : i < len, c = f ⟨i, h⟩ := by
      intro i c hi
      rw [List.getElem?_ofFn] at hi
      split at hi
      · rename_i h; exact ⟨h, (Option.some.inj hi).symm⟩
      · cases hi
    refine ⟨.mk ⟨k, some a, len, cap⟩ (List.ofFn f), ?_, .mk _ _ (by simp) ?_ ?_ ?_⟩
    · cases e0; cases e3; rfl
    · show len * 16 ≤ _
      rw [hlen] at hwl
      unfold reachBytes at hwl
      omega
    · intro i c hi
      obtain ⟨h, rfl⟩ := hget i c hi
      exact hcell ⟨i, h⟩
    · intro c hc
      obtain ⟨i, hi⟩ := List.mem_iff_getElem?.1 hc
      obtain ⟨h, rfl⟩ := hget i c hi
      exact (hf ⟨i, h⟩).2
end
end Go.Proofs.YtofboalgbgipoaaGreatDoor
