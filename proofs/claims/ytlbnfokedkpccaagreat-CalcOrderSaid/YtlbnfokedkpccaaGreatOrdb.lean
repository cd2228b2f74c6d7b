/- Values made of numbers: Str, Tag, Tuple. -/
import Derived.Test.YtlbnfokedkpccaaGreatOrda
import Derived.Maps.AppendAt
set_option linter.all false
namespace Go.Proofs.YtlbnfokedkpccaaGreat
open Go.RowKit Go.Shelf
attribute [local go_sem] Oper.semAt_some

def nodeCells (x : Node) : List Value := [.int .i64 x.k, .int .i64 x.n, .string x.s, .slice x.a x.len x.cap]
def cellsV (l : List LT) : List Value := l.flatMap (fun c => nodeCells c.node)
theorem cellsV_len (l : List LT) : (cellsV l).length = l.length * 4 := by
  induction l with
  | nil => rfl
  | cons x l ih => simp only [cellsV, List.flatMap_cons, List.length_append, List.length_cons] at ih ⊢; rw [ih]; simp [nodeCells]; omega
/-- What holds of each value's four cells holds of each cell of the row. -/
theorem cellsV_all {l : List LT} {P : Nat → Value → Prop} (h : ∀ (i : Nat) (c : LT), l[i]? = some c → P (i * 4) (.int .i64 c.node.k) ∧ P (i * 4 + 1) (.int .i64 c.node.n) ∧ P (i * 4 + 2) (.string c.node.s) ∧ P (i * 4 + 3) (.slice c.node.a c.node.len c.node.cap)) :
    ∀ j u, (cellsV l)[j]? = some u → P j u := by
  induction l generalizing P with
  | nil => intro j u hj; simp [cellsV] at hj
  | cons x l ih =>
    intro j u hj
    have h0 := h 0 x rfl
    have hs : cellsV (x :: l) = nodeCells x.node ++ cellsV l := rfl
    rw [hs] at hj
    rcases j with _ | _ | _ | _ | j
    · simp [nodeCells] at hj; subst hj; exact h0.1
    · simp [nodeCells] at hj; subst hj; exact h0.2.1
    · simp [nodeCells] at hj; subst hj; exact h0.2.2.1
    · simp [nodeCells] at hj; subst hj; exact h0.2.2.2
    · have hj' : (cellsV l)[j]? = some u := by simpa [nodeCells] using hj
      refine ih (P := fun j u => P (j + 4) u) (fun i c hi => ?_) j u hj'
      have := h (i + 1) c (by simpa using hi)
      rw [show (i + 1) * 4 = i * 4 + 4 from by omega] at this
      exact this
theorem cellsV_at {l : List LT} {i : Nat} {c : LT} (h : l[i]? = some c) : (cellsV l)[i * 4]? = some (.int .i64 c.node.k) ∧ (cellsV l)[i * 4 + 1]? = some (.int .i64 c.node.n) ∧ (cellsV l)[i * 4 + 2]? = some (.string c.node.s) ∧ (cellsV l)[i * 4 + 3]? = some (.slice c.node.a c.node.len c.node.cap) := by
  induction l generalizing i with
  | nil => simp at h
  | cons x l ih =>
    cases i with
    | zero => simp at h; subst h; simp [cellsV, nodeCells]
    | succ i =>
      have := ih (i := i) (by simpa using h)
      have hs : cellsV (x :: l) = nodeCells x.node ++ cellsV l := rfl
      rw [hs, show (i + 1) * 4 = i * 4 + 4 from by omega]
      simpa [nodeCells] using this
theorem infoV : (Tryz.prog.info? 44).map (fun i => (i.zero, i.size, i.bytes)) = some (some (.agg #[.int .i64 0, .int .i64 0, .string ByteArray.empty, .slice none 0 0]), 4, 56) := by kernel_rfl
theorem undV : Tryz.prog.underlying 24 = some (.slice 44) := by kernel_rfl
theorem info_partsV : ∃ i, Tryz.prog.info? 44 = some i ∧ i.zero = some (.agg #[.int .i64 0, .int .i64 0, .string ByteArray.empty, .slice none 0 0]) ∧ i.size = 4 ∧ i.bytes = 56 := by
  have h := infoV
  cases hi : Tryz.prog.info? 44 with
  | none => rw [hi] at h; cases h
  | some i =>
    rw [hi] at h
    simp only [Option.map_some, Option.some.injEq, Prod.mk.injEq] at h
    exact ⟨i, rfl, h.1, h.2.1, h.2.2⟩

set_option maxRecDepth 100000 in
set_option maxHeartbeats 1000000 in
theorem RStr_any (s : ByteArray) (w : World) :
    Calls Tryz.prog 38 #[.string s] w fun e w' => e = .returned (Node.val ⟨1, 0, s, none, 0, 0⟩) ∧ Below w.heap.size w w' := by
  go_enter Tryz.func38, Tryz.ntmps38
  go_wp2
  refine ⟨rfl, Node.val ⟨1, 0, s, none, 0, 0⟩, ?_, rfl, (Below.refl _ _).alloc (Nat.le_refl _) _⟩
  simp [results, Tryz.f38, go_sem, Node.val]

set_option maxRecDepth 100000 in
set_option maxHeartbeats 1000000 in
theorem RTag_raw (n : Int) (x : Node) (w : World) :
    Calls Tryz.prog 54 #[.int .i64 n, x.val] w fun e w' => e = .returned (Node.val ⟨3, n, ByteArray.empty, some ⟨w.heap.size + 2, 0, none⟩, 1, 1⟩) ∧ w'.heap.size = w.heap.size + 3 ∧ Below w.heap.size w w' ∧
      w'.cell? ⟨w.heap.size + 2, 0, none⟩ = some (.int .i64 x.k) ∧ w'.cell? ⟨w.heap.size + 2, 1, none⟩ = some (.int .i64 x.n) ∧ w'.cell? ⟨w.heap.size + 2, 2, none⟩ = some (.string x.s) ∧ w'.cell? ⟨w.heap.size + 2, 3, none⟩ = some (.slice x.a x.len x.cap) := by
  obtain ⟨xk, xn, xs, xa, xl, xc⟩ := x
  dsimp only [Node.val]
  go_enter Tryz.func54, Tryz.ntmps54
  go_wp2
  have hb : Below w.heap.size w (((w.alloc (Obj.cells #[Value.int IntKind.i64 xk, Value.int IntKind.i64 xn, Value.string xs, Value.slice xa xl xc] 44)).alloc (Obj.cells #[Value.int IntKind.i64 3, Value.int IntKind.i64 n, Value.string { data := #[] }, Value.slice (some { block := w.heap.size + 1 + 1, off := 0 }) 1 1] 44)).alloc (Obj.cells #[Value.int IntKind.i64 xk, Value.int IntKind.i64 xn, Value.string xs, Value.slice xa xl xc] 44)) :=
    (((Below.refl _ _).alloc (Nat.le_refl _) _).alloc (by simp) _).alloc (by simp; omega) _
  refine ⟨rfl, Node.val ⟨3, n, ByteArray.empty, some ⟨w.heap.size + 2, 0, none⟩, 1, 1⟩, ?_, rfl, by simp, hb, ?_⟩
  · simp [results, Tryz.f54, go_sem, Node.val]
    rfl
  · simp [go_sem]

set_option maxRecDepth 100000 in
set_option maxHeartbeats 2000000 in
theorem RTuple_raw (b off cap : Nat) (kids : List LT) (hm : kids.length ≤ 1000) (w : World)
    (hc : ∀ (i : Nat) (c : LT), kids[i]? = some c → w.cell? ⟨b, off + i * 4, none⟩ = some (.int .i64 c.node.k) ∧ w.cell? ⟨b, off + i * 4 + 1, none⟩ = some (.int .i64 c.node.n) ∧ w.cell? ⟨b, off + i * 4 + 2, none⟩ = some (.string c.node.s) ∧ w.cell? ⟨b, off + i * 4 + 3, none⟩ = some (.slice c.node.a c.node.len c.node.cap)) :
    Calls Tryz.prog 111 #[.slice (some ⟨b, off, none⟩) kids.length cap] w fun e w' => ∃ (g cp : Nat), e = .returned (Node.val ⟨2, 0, ByteArray.empty, some ⟨g, 0, none⟩, kids.length, cp⟩) ∧ w.heap.size ≤ g ∧ g < w'.heap.size ∧ Below w.heap.size w w' ∧
      ∀ (i : Nat) (c : LT), kids[i]? = some c → w'.cell? ⟨g, i * 4, none⟩ = some (.int .i64 c.node.k) ∧ w'.cell? ⟨g, i * 4 + 1, none⟩ = some (.int .i64 c.node.n) ∧ w'.cell? ⟨g, i * 4 + 2, none⟩ = some (.string c.node.s) ∧ w'.cell? ⟨g, i * 4 + 3, none⟩ = some (.slice c.node.a c.node.len c.node.cap) := by
  obtain ⟨i0, hi, hz0, hz1, hz2⟩ := info_partsV
  have hB : Below w.heap.size w ((w.alloc (.cells #[.int .i64 0, .int .i64 0, .string ByteArray.empty, .slice none 0 0] 44)).alloc (.cells #[] 44)) := ((Below.refl _ _).alloc (Nat.le_refl _) _).alloc (by simp) _
  have hnews : ∀ j u, (cellsV kids)[j]? = some u → ((w.alloc (.cells #[.int .i64 0, .int .i64 0, .string ByteArray.empty, .slice none 0 0] 44)).alloc (.cells #[] 44)).cell? ((⟨b, off, none⟩ : Addr).add j) = some u := by
    have hadd : ∀ j, (⟨b, off, none⟩ : Addr).add j = ⟨b, off + j, none⟩ := fun j => by unfold Addr.add; split <;> simp_all
    refine cellsV_all (fun i c hi => ?_)
    obtain ⟨h0, h1, h2, h3⟩ := hc i c hi
    rw [hadd, hadd, hadd, hadd]
    exact ⟨(hB.cell (p := ⟨b, _, none⟩) (cell_lt h0)).trans h0, (hB.cell (p := ⟨b, _, none⟩) (cell_lt h1)).trans h1, (hB.cell (p := ⟨b, _, none⟩) (cell_lt h2)).trans h2, (hB.cell (p := ⟨b, _, none⟩) (cell_lt h3)).trans h3⟩
  have hone : ∀ u ∈ cellsV kids, u.oneCell' = true := fun u hu => by
    obtain ⟨j, hj⟩ := List.getElem?_of_mem hu
    exact cellsV_all (P := fun _ u => u.oneCell' = true) (fun i c hi => ⟨rfl, rfl, rfl, rfl⟩) j u hj
  have hown : World.ownsRow ((w.alloc (.cells #[.int .i64 0, .int .i64 0, .string ByteArray.empty, .slice none 0 0] 44)).alloc (.cells #[] 44)) (w.heap.size + 1) 44 4 (.slice (some ⟨w.heap.size + 1, 0, none⟩) 0 0) 0 [] :=
    ⟨rfl, .inr ⟨w.heap.size + 1, 0, #[], rfl, Nat.le_refl _, by have h := World.alloc_heap_new (w.alloc (.cells #[.int .i64 0, .int .i64 0, .string ByteArray.empty, .slice none 0 0] 44)) (.cells #[] 44); rwa [World.size_alloc] at h, Nat.le_refl _, Nat.zero_le _, rfl, rfl⟩⟩
  have HB := Lib.hid hB
  have HN := Lib.hid (And.intro hnews (And.intro hone hown))
  clear hnews hone hown hB hc
  obtain ⟨len, hlen⟩ : ∃ len, kids.length = len := ⟨_, rfl⟩
  have hl4 := cellsV_len kids
  rw [hlen] at hm hl4 ⊢
  go_enter Tryz.func111, Tryz.ntmps111
  go_wp2_with (at_builtin; refine wpList_append_own_at _ rfl _ _ 24 rfl (w.heap.size + 1) 44 i0 (.agg #[.int .i64 0, .int .i64 0, .string ByteArray.empty, .slice none 0 0]) 4 56 undV hi hz0 hz1 hz2 rfl (by decide) _ _ _ rfl HN.out.2.2 ⟨b, off, none⟩ len cap (cellsV kids) rfl hl4 HN.out.1 HN.out.2.1 (by unfold maxLen; omega) (by omega) (by simp) ?_)
  intro v' W6 hown' hgrow hne hv'
  have hsz := hgrow.size
  have hb6 : Below w.heap.size w W6 := HB.out.grown hgrow (by simp <;> omega) (fun j e => by simp [Value.ownBlock] at e; omega)
  rcases hown'.2 with ⟨hno, _⟩ | ⟨g, cp, cur, rfl, hg, hh, _, _, _, htk⟩
  · exact absurd hno hne
  have hg6 := (Array.getElem?_eq_some_iff.1 hh).1
  have box6 : W6.heap[w.heap.size]? = some (.cells #[.int .i64 0, .int .i64 0, .string ByteArray.empty, .slice none 0 0] 44 (0, 0)) :=
    (hgrow.block w.heap.size (by simp <;> omega) (fun e => by simp [Value.ownBlock] at e)).trans ((Below.heap_alloc (w.alloc (.cells #[.int .i64 0, .int .i64 0, .string ByteArray.empty, .slice none 0 0] 44)) (.cells #[] 44) w.heap.size (by simp)).trans (World.alloc_heap_new w _))
  obtain ⟨⟨b0, b1, b2, b3⟩, g0, g1, g2, g3⟩ := cells4 box6
  have HR := Lib.hid (And.intro hb6 (And.intro hg (And.intro hh htk)))
  clear hown' hgrow hv' hh htk hb6 hsz box6
  go_wp2
  have hgne : g ≠ w.heap.size := by have := HR.out.2.1; omega
  have hkeep : ∀ (u0 u1 u2 u3 : Value), (((((W6.setCell ⟨w.heap.size, 0, none⟩ u0).setCell ⟨w.heap.size, 1, none⟩ u1).setCell ⟨w.heap.size, 2, none⟩ u2).setCell ⟨w.heap.size, 3, none⟩ u3)).heap[g]? = some (.cells cur 44 (0, 0)) := fun u0 u1 u2 u3 =>
    (((Below.heap_setCell _ _ _ g hgne).trans (Below.heap_setCell _ _ _ g hgne)).trans ((Below.heap_setCell _ _ _ g hgne).trans (Below.heap_setCell _ _ _ g hgne))).trans HR.out.2.2.1
  refine ⟨rfl, Node.val ⟨2, 0, ByteArray.empty, some ⟨g, 0, none⟩, len, cp⟩, ?_, ⟨g, cp, rfl, by have := HR.out.2.1; omega, (Array.getElem?_eq_some_iff.1 (hkeep _ _ _ _)).1, ?_, fun i c hi => ?_⟩⟩
  · simp [results, Tryz.f111, go_sem, Node.val, b0, b1, b2, b3]
    rfl
  · exact (((HR.out.1.setCell (by simp) _).setCell (by simp) _).setCell (by simp) _).setCell (by simp) _
  · have hil : i < kids.length := (List.getElem?_eq_some_iff.1 hi).1
    obtain ⟨h0, h1, h2, h3⟩ := cellsV_at hi
    rw [← HR.out.2.2.2, List.getElem?_take] at h0 h1 h2 h3
    rw [if_pos (by omega)] at h0 h1 h2 h3
    have hk := hkeep (.int .i64 2) (.int .i64 0) (.string ⟨#[]⟩) (.slice (some ⟨g, 0, none⟩) len cp)
    exact ⟨by simpa [World.cell?, hk] using h0, by simpa [World.cell?, hk] using h1, by simpa [World.cell?, hk] using h2, by simpa [World.cell?, hk] using h3⟩
end Go.Proofs.YtlbnfokedkpccaaGreat
