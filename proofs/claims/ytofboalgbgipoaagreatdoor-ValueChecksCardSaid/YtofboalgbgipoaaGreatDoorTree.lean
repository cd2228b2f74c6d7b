/- A value that came in, as a tree. -/
import Derived.Test.YtofboalgbgipoaaGreatDoorValb
import Derived.SizedLaws
import Derived.ChangeArms
import Derived.DataReads
import Derived.WideShapes
import Derived.OpenShut
set_option linter.all false
namespace Go.Proofs.YtofboalgbgipoaaGreatDoor
open Go.RowKit Go.Shelf Go.WideShapes
section
variable {H : Type} {enc : TypeId × Value → H}
theorem weightsAll_mem {P : Program} {e : TypeId} {q : Nat → Bool} : ∀ {l : List (DataW H)} {d : DataW H}, (DataW.weightsAll P e l).all q = true → d ∈ l → (d.weights P e).all q = true
  | x :: l, d, h, hd => by
    simp only [DataW.weightsAll, List.all_append, Bool.and_eq_true] at h
    rcases List.mem_cons.1 hd with rfl | hd
    · exact h.1
    · exact weightsAll_mem h.2 hd
theorem cellsT_int : Tryz.prog.cellsOf 3 = 1 := by kernel_rfl
theorem cellsT_str : Tryz.prog.cellsOf 9 = 1 := by kernel_rfl
theorem cellsT_vals : Tryz.prog.cellsOf 22 = 1 := by kernel_rfl
theorem cellsT_val : Tryz.prog.cellsOf 24 = 4 := by kernel_rfl
theorem bytesT_val : Tryz.prog.bytesOf 24 = 56 := by kernel_rfl
theorem spot_none {W : World} {a : Addr} {v : Value} (h : W.cell? a = some v) : a.spot = none := by
  unfold World.cell? at h
  split at h
  · split at h
    · cases h
    · rename_i hs; simpa using hs
  · cases h
theorem four_of {α : Type} : ∀ {l : List α}, l.length = 4 → ∃ a b c d, l = [a, b, c, d]
  | [a, b, c, d], _ => ⟨a, b, c, d, rfl⟩
theorem value_of {W : World} : ∀ (fuel : Nat) (cs : List Value) (d : DataW H) (p : List MemPlace),
    DataW.trod enc Tryz.prog W 0 (fun _ => true) true fuel 24 cs = some (d, p) → (d.weights Tryz.prog 24).all (fun n => decide (n ≤ reachBytes)) = true →
    ∃ T : LT, cs = [.int .i64 T.node.k, .int .i64 T.node.n, .string T.node.s, .slice T.node.a T.node.len T.node.cap] ∧ IsT W.heap.size W T ∧ ∀ (e : Int), ∀ x ∈ T.pre e, x.2.s.size ≤ maxLen ∧ x.2.len ≤ maxLen := by
  intro fuel
  induction fuel using Nat.strongRecOn with
  | _ fuel ih =>
  intro cs d p h hw
  obtain ⟨xs, n, rfl, hx, hl, hxl, hf⟩ := DataW.trod_struct Tryz.underlying24 h
  rw [cellsT_val] at hl
  obtain ⟨v0, v1, v2, v3, rfl⟩ := four_of hl
  obtain ⟨y0, y1, y2, y3, rfl⟩ := four_of hxl
  have h0 : DataW.trod enc Tryz.prog W 0 (fun _ => true) true n 3 [v0] = some y0 := by
    have := hf 0 _ rfl
    change DataW.trod enc Tryz.prog W 0 (fun _ => true) true n 3 (List.take (Tryz.prog.cellsOf 3) [v0, v1, v2, v3]) = some y0 at this
    rw [cellsT_int] at this
    exact this
  have h1 : DataW.trod enc Tryz.prog W 0 (fun _ => true) true n 3 [v1] = some y1 := by
    have := hf 1 _ rfl
    change DataW.trod enc Tryz.prog W 0 (fun _ => true) true n 3 (List.take (Tryz.prog.cellsOf 3) [v1, v2, v3]) = some y1 at this
    rw [cellsT_int] at this
    exact this
  have h2 : DataW.trod enc Tryz.prog W 0 (fun _ => true) true n 9 [v2] = some y2 := by
    have := hf 2 _ rfl
    change DataW.trod enc Tryz.prog W 0 (fun _ => true) true n 9 (List.take (Tryz.prog.cellsOf 9) [v2, v3]) = some y2 at this
    rw [cellsT_str] at this
    exact this
  have h3 : DataW.trod enc Tryz.prog W 0 (fun _ => true) true n 22 [v3] = some y3 := by
    have := hf 3 _ rfl
    change DataW.trod enc Tryz.prog W 0 (fun _ => true) true n 22 (List.take (Tryz.prog.cellsOf 22) [v3]) = some y3 at this
    rw [cellsT_vals] at this
    exact this
  obtain ⟨k, e0, _, _⟩ := DataW.trod_int Tryz.underlying3 h0
  obtain ⟨nn, e1, _, _⟩ := DataW.trod_int Tryz.underlying3 h1
  obtain ⟨s, e2, _, hs⟩ := DataW.trod_string Tryz.underlying9 h2
  simp only [Prod.mk.injEq] at hx
  have hw3 : (y3.1.weights Tryz.prog 22).all (fun n => decide (n ≤ reachBytes)) = true := by
    rw [hx.1] at hw
    simp only [DataW.weights, Tryz.underlying24, List.map_cons, List.map_nil, DataW.weightsEach, List.all_append, Bool.and_eq_true] at hw
    exact hw.2.2.2.1
  rcases DataW.trod_slice Tryz.underlying22 h3 with ⟨e3, he3⟩ | ⟨a, len, cap, elems, rest, m, hm, e3, hx3, hb, hlc, hcap, hlen, hel, hsp, _⟩
  · refine ⟨.mk ⟨k, nn, s, none, 0, 0⟩ [], ?_, .mk _ _ rfl hs (by simp) (fun i c hi => by simp at hi) (fun c hc => by cases hc), ?_⟩
    · cases e0; cases e1; cases e2; cases e3; rfl
    · intro e x hx
      simp only [LT.pre, LT.preL, List.mem_cons, List.not_mem_nil, or_false] at hx
      subst hx
      exact ⟨hs, by simp [maxLen]⟩
  · rw [hx3] at hw3
    simp only [DataW.weights, Tryz.underlying22, List.all_cons, List.all_append, Bool.and_eq_true, decide_eq_true_eq, List.length_map, bytesT_val] at hw3
    obtain ⟨hwl, hwe, _⟩ := hw3
    have key : ∀ i : Fin len, ∃ T : LT, (∃ cs', W.cells? 0 (a.add (i.1 * 4)) 4 = some cs' ∧ cs' = [.int .i64 T.node.k, .int .i64 T.node.n, .string T.node.s, .slice T.node.a T.node.len T.node.cap]) ∧ IsT W.heap.size W T ∧ ∀ (e : Int), ∀ x ∈ T.pre e, x.2.s.size ≤ maxLen ∧ x.2.len ≤ maxLen := by
      intro i
      have hi := hel i.1 i.2
      rw [cellsT_val, List.getElem?_eq_getElem (by rw [hlen]; exact i.2)] at hi
      obtain ⟨cs', hc1, hc2⟩ := Option.bind_eq_some_iff.1 hi
      obtain ⟨T, hT1, hT2, hT3⟩ := ih m (by omega) cs' (elems[i.1]'(by rw [hlen]; exact i.2)).1 _ hc2 (weightsAll_mem hwe (List.mem_map_of_mem (List.getElem_mem _)))
      exact ⟨T, ⟨cs', hc1, hT1⟩, hT2, hT3⟩
    obtain ⟨f, hf⟩ := Classical.axiomOfChoice key
    have hcell : ∀ i : Fin len, ∃ b off, some a = some (⟨b, off, none⟩ : Addr) ∧ b < W.heap.size ∧ W.cell? ⟨b, off + i.1 * 4, none⟩ = some (.int .i64 (f i).node.k) ∧ W.cell? ⟨b, off + i.1 * 4 + 1, none⟩ = some (.int .i64 (f i).node.n) ∧ W.cell? ⟨b, off + i.1 * 4 + 2, none⟩ = some (.string (f i).node.s) ∧ W.cell? ⟨b, off + i.1 * 4 + 3, none⟩ = some (.slice (f i).node.a (f i).node.len (f i).node.cap) := by
      intro i
      obtain ⟨⟨cz, hz1, hz2⟩, _, _⟩ := hf ⟨0, by have := i.2; omega⟩
      obtain ⟨_, _, hz3⟩ := World.cells?_some hz1
      have hz := hz3 0 (by omega)
      rw [hz2] at hz
      simp only [Nat.zero_mul, List.getElem?_cons_zero] at hz
      rw [show (a.add 0).add 0 = a by simp [Addr.add]] at hz
      have hsp0 := spot_none hz
      obtain ⟨b, o, sp⟩ := a
      simp only at hsp0
      subst hsp0
      obtain ⟨⟨cs', hc1, hc2⟩, _, _⟩ := hf i
      obtain ⟨_, _, hc3⟩ := World.cells?_some hc1
      have q0 := hc3 0 (by omega)
      have q1 := hc3 1 (by omega)
      have q2 := hc3 2 (by omega)
      have q3 := hc3 3 (by omega)
      rw [hc2] at q0 q1 q2 q3
      simp only [add_plain, Nat.add_zero, List.getElem?_cons_zero, List.getElem?_cons_succ] at q0 q1 q2 q3
      exact ⟨b, o, rfl, cell_lt hz, q0, q1, q2, q3⟩
    have hget : ∀ (i : Nat) (c : LT), (List.ofFn f)[i]? = some c → ∃ h : i < len, c = f ⟨i, h⟩ := by
      intro i c hi
      rw [List.getElem?_ofFn] at hi
      split at hi
      · rename_i h; exact ⟨h, (Option.some.inj hi).symm⟩
      · cases hi
    refine ⟨.mk ⟨k, nn, s, some a, len, cap⟩ (List.ofFn f), ?_, .mk _ _ (by simp) hs ?_ ?_ ?_, ?_⟩
    · cases e0; cases e1; cases e2; cases e3; rfl
    · show len * 32 ≤ _
      rw [hlen] at hwl
      unfold reachBytes at hwl
      omega
    · intro i c hi
      obtain ⟨h, rfl⟩ := hget i c hi
      exact hcell ⟨i, h⟩
    · intro c hc
      obtain ⟨i, hi⟩ := List.mem_iff_getElem?.1 hc
      obtain ⟨h, rfl⟩ := hget i c hi
      exact (hf ⟨i, h⟩).2.1
    · intro e x hx
      simp only [LT.pre, List.mem_cons] at hx
      rcases hx with rfl | hx
      · exact ⟨hs, by show len ≤ maxLen; omega⟩
      · have : ∀ (l : List LT), (∀ c ∈ l, ∀ (e : Int), ∀ x ∈ c.pre e, x.2.s.size ≤ maxLen ∧ x.2.len ≤ maxLen) → x ∈ LT.preL (e + 1) l → x.2.s.size ≤ maxLen ∧ x.2.len ≤ maxLen := by
          intro l
          induction l with
          | nil => intro _ h; simp [LT.preL] at h
          | cons t l ihl =>
            intro hc h
            simp only [LT.preL, List.mem_append] at h
            rcases h with h | h
            · exact hc t (by simp) _ x h
            · exact ihl (fun c hh => hc c (by simp [hh])) h
        refine this _ (fun c hc => ?_) hx
        obtain ⟨i, hi⟩ := List.mem_iff_getElem?.1 hc
        obtain ⟨h, rfl⟩ := hget i c hi
        exact (hf ⟨i, h⟩).2.2
end
end Go.Proofs.YtofboalgbgipoaaGreatDoor
