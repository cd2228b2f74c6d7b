/- Values as trees, over a set of blocks; rows of values that are appended to. -/
import Derived.Test.YtofboalgbgipoaaGreatDoorValh
set_option linter.all false
namespace Go.Proofs.YtofboalgbgipoaaGreatDoor
open Go.RowKit Go.Shelf
attribute [local go_sem] Oper.semAt_some

/-- The value lies in blocks of S. -/
inductive IsV (S : Nat → Prop) (W : World) : LT → Prop
  | mk (x : Node) (l : List LT) (hlen : x.len = l.length) (hs : x.s.size ≤ maxLen) (hm : x.len * 32 ≤ 140737488351232)
      (hc : ∀ (i : Nat) (c : LT), l[i]? = some c → ∃ b, x.a = some ⟨b, 0, none⟩ ∧ S b ∧ W.cell? ⟨b, i * 4, none⟩ = some (.int .i64 c.node.k) ∧ W.cell? ⟨b, i * 4 + 1, none⟩ = some (.int .i64 c.node.n) ∧
        W.cell? ⟨b, i * 4 + 2, none⟩ = some (.string c.node.s) ∧ W.cell? ⟨b, i * 4 + 3, none⟩ = some (.slice c.node.a c.node.len c.node.cap))
      (hk : ∀ c ∈ l, IsV S W c) : IsV S W (.mk x l)
theorem IsV.kept {S S' : Nat → Prop} {A B : World} (hS : ∀ b, S b → S' b) (h : ∀ b, S b → b < A.heap.size → B.heap[b]? = A.heap[b]?) {T : LT} (ht : IsV S A T) : IsV S' B T := by
  induction ht with
  | mk x l hlen hs hm hc _ ih =>
    refine .mk x l hlen hs hm (fun i c hi => ?_) ih
    obtain ⟨b, ha, hb, h0, h1, h2, h3⟩ := hc i c hi
    have hh := h b hb (cell_lt h0)
    exact ⟨b, ha, hS b hb, (World.cell?_of_block (a := ⟨b, i * 4, none⟩) hh).trans h0, (World.cell?_of_block (a := ⟨b, i * 4 + 1, none⟩) hh).trans h1, (World.cell?_of_block (a := ⟨b, i * 4 + 2, none⟩) hh).trans h2, (World.cell?_of_block (a := ⟨b, i * 4 + 3, none⟩) hh).trans h3⟩
theorem IsV.isT {S : Nat → Prop} {W : World} {n₀ : Nat} (hS : ∀ b, S b → b < n₀) {T : LT} (h : IsV S W T) : IsT n₀ W T := by
  induction h with
  | mk x l hlen hs hm hc _ ih =>
    refine .mk x l hlen hs hm (fun i c hi => ?_) ih
    obtain ⟨b, ha, hb, h0, h1, h2, h3⟩ := hc i c hi
    exact ⟨b, 0, ha, hS b hb, by simpa using h0, by simpa using h1, by simpa using h2, by simpa using h3⟩

def nodeCells (x : Node) : List Value := [.int .i64 x.k, .int .i64 x.n, .string x.s, .slice x.a x.len x.cap]
def cellsV (l : List LT) : List Value := l.flatMap (fun c => nodeCells c.node)
theorem cellsV_snoc (l : List LT) (c : LT) : cellsV (l ++ [c]) = cellsV l ++ nodeCells c.node := by simp [cellsV]
theorem cellsV_at {l : List LT} {i : Nat} {c : LT} (h : l[i]? = some c) : (cellsV l)[i * 4]? = some (.int .i64 c.node.k) ∧ (cellsV l)[i * 4 + 1]? = some (.int .i64 c.node.n) ∧ (cellsV l)[i * 4 + 2]? = some (.string c.node.s) ∧ (cellsV l)[i * 4 + 3]? = some (.slice c.node.a c.node.len c.node.cap) := by
  induction l generalizing i with
  | nil => simp at h
  | cons x l ih =>
    cases i with
    | zero => simp at h; subst h; simp [cellsV, nodeCells]
    | succ i =>
      have := ih (i := i) (by simpa using h)
      simp only [cellsV, List.flatMap_cons, nodeCells] at this ⊢
      rw [show (i + 1) * 4 = i * 4 + 4 from by omega, show i * 4 + 4 + 1 = i * 4 + 1 + 4 from by omega, show i * 4 + 4 + 2 = i * 4 + 2 + 4 from by omega, show i * 4 + 4 + 3 = i * 4 + 3 + 4 from by omega]
      simpa using this

/-- What holds in a loop that appends values to a value's parts, behind k rounds: the box of that value is block B. -/
structure RelV (B : Nat) (W0 : World) (P : LT → Prop) (x0 x1 : Int) (x2 : ByteArray) (k : Nat) (v : Value) (kids : List LT) (W : World) : Prop where
  len : kids.length = k
  own : W.ownsRow (B + 1) 24 4 v k (cellsV kids)
  box : W.heap[B]? = some (.cells #[.int .i64 x0, .int .i64 x1, .string x2, v] 24 (0, 0))
  bel : Below B W0 W
  kids : ∀ c ∈ kids, IsV (fun b => B + 1 ≤ b ∧ b < W.heap.size ∧ v.ownBlock ≠ some b) W c ∧ P c

theorem setFourth {W : World} {B : Nat} {t : TypeId} {x y z u v : Value} (h : W.heap[B]? = some (.cells #[x, y, z, u] t (0, 0))) : (W.setCell ⟨B, 3, none⟩ v).heap[B]? = some (.cells #[x, y, z, v] t (0, 0)) := by
  obtain ⟨hlt, hk⟩ := Array.getElem?_eq_some_iff.1 h
  show (W.heap.modify B _)[B]? = _
  rw [Array.getElem?_eq_getElem (by rw [Array.size_modify]; exact hlt), Array.getElem_modify_self, hk]
  rfl

theorem RelV.box6 {B : Nat} {W0 : World} {P : LT → Prop} {x0 x1 : Int} {x2 : ByteArray} {k : Nat} {v : Value} {kids : List LT} {W W3 W6 : World} {o1 o2 : Obj} (h : RelV B W0 P x0 x1 x2 k v kids W) (hb : Below W.heap.size W W3) (hg : ((W3.alloc o1).alloc o2).grownBy W6 v.ownBlock) :
    W6.heap[B]? = some (.cells #[.int .i64 x0, .int .i64 x1, .string x2, v] 24 (0, 0)) := by
  have hge := ownBlock_ge h.own
  have hB1 := (Array.getElem?_eq_some_iff.1 h.box).1
  have hs3 := hb.size
  have hb5 : Below W.heap.size W ((W3.alloc o1).alloc o2) := (hb.alloc hs3 _).alloc (by simp; omega) _
  exact (hg.block _ (by simp; omega) (fun e => by have := hge _ e.symm; omega)).trans ((hb5.block _ hB1).trans h.box)

theorem RelV.step {B : Nat} {W0 : World} {P : LT → Prop} {x0 x1 : Int} {x2 : ByteArray} {k : Nat} {v v' : Value} {kids : List LT} {W W3 W6 : World} {c : LT} {o1 o2 : Obj} (h : RelV B W0 P x0 x1 x2 k v kids W) (hB0 : B ≤ W0.heap.size) (hb : Below W.heap.size W W3)
    (hc : IsV (fun b => W.heap.size ≤ b ∧ b < W3.heap.size) W3 c) (hok : P c) (hown : W6.ownsRow (B + 1) 24 4 v' (k + 1) (cellsV kids ++ nodeCells c.node))
    (hg : ((W3.alloc o1).alloc o2).grownBy W6 v.ownBlock) (hv : v'.ownBlock = v.ownBlock ∨ v'.ownBlock = some ((W3.alloc o1).alloc o2).heap.size) :
    RelV B W0 P x0 x1 x2 (k + 1) v' (kids ++ [c]) (W6.setCell ⟨B, 3, none⟩ v') := by
  have hge := ownBlock_ge h.own
  have hlt : ∀ g, v.ownBlock = some g → g < W.heap.size := by
    intro g hg
    rcases h.own.2 with ⟨rfl, _⟩ | ⟨g', cap, cur, rfl, _, hh, _⟩
    · simp [Value.ownBlock] at hg
    · simp [Value.ownBlock] at hg; rw [← hg]; exact (Array.getElem?_eq_some_iff.1 hh).1
  have hB1 := (Array.getElem?_eq_some_iff.1 h.box).1
  have hs3 := hb.size
  have h5 : ((W3.alloc o1).alloc o2).heap.size = W3.heap.size + 2 := by simp
  have hb5 : Below W.heap.size W ((W3.alloc o1).alloc o2) := (hb.alloc hs3 _).alloc (by simp; omega) _
  have hs6 := hg.size
  have k6 : ∀ b, b < W.heap.size → v.ownBlock ≠ some b → W6.heap[b]? = W.heap[b]? := fun b h1 h2 => (hg.block b (by omega) (fun e => h2 e.symm)).trans (hb5.block b h1)
  have ks : ∀ b, b ≠ B → (W6.setCell ⟨B, 3, none⟩ v').heap[b]? = W6.heap[b]? := fun b hne => Below.heap_setCell _ _ _ b hne
  have hsz : (W6.setCell ⟨B, 3, none⟩ v').heap.size = W6.heap.size := by simp [World.setCell]
  have box6 := h.box6 hb hg
  refine ⟨by simp [h.len], ?_, setFourth box6, ?_, ?_⟩
  · rw [cellsV_snoc]
    exact ownsRow_kept hown (fun g hg1 _ => ks g (by omega))
  · refine (h.bel.trans ?_).setCell (p := ⟨B, 3, none⟩) (by simp) _
    exact (hb5.mono (by omega)).grown hg (by omega) (fun j e => by have := hge j e; omega)
  · intro c' hc'
    rcases List.mem_append.1 hc' with hc' | hc'
    · obtain ⟨h1, h2⟩ := h.kids c' hc'
      refine ⟨h1.kept (fun b hb' => ⟨hb'.1, by omega, fun e => ?_⟩) (fun b hb' hbl => (ks b (by omega)).trans (k6 b hb'.2.1 hb'.2.2)), h2⟩
      rcases hv with hv | hv
      · exact hb'.2.2 (hv ▸ e)
      · rw [hv] at e; cases e; omega
    · rw [List.mem_singleton.1 hc']
      have q1 : ∀ b, (W.heap.size ≤ b ∧ b < W3.heap.size) → B + 1 ≤ b ∧ b < (W6.setCell ⟨B, 3, none⟩ v').heap.size ∧ v'.ownBlock ≠ some b := fun b hb' => ⟨by omega, by omega, fun e => by
        rcases hv with hv | hv
        · rw [hv] at e; have := hlt b e; omega
        · rw [hv] at e; cases e; omega⟩
      have q2 : ∀ b, (W.heap.size ≤ b ∧ b < W3.heap.size) → b < W3.heap.size → (W6.setCell ⟨B, 3, none⟩ v').heap[b]? = W3.heap[b]? := fun b hb' hbl =>
        ((ks b (by omega)).trans (hg.block b (by omega) (fun e => by have := hlt b e.symm; omega))).trans ((Below.heap_alloc (W3.alloc o1) o2 b (by simp; omega)).trans (Below.heap_alloc W3 o1 b hbl))
      exact ⟨hc.kept q1 q2, hok⟩

theorem RelV.isV {B : Nat} {W0 : World} {P : LT → Prop} {x0 x1 : Int} {x2 : ByteArray} {k : Nat} {va : Option Addr} {vc : Nat} {kids : List LT} {W : World} (h : RelV B W0 P x0 x1 x2 k (.slice va k vc) kids W) (hk : k ≤ 1000) (hx : x2.size ≤ maxLen) : IsV (fun b => B + 1 ≤ b ∧ b < W.heap.size) W (.mk ⟨x0, x1, x2, va, k, vc⟩ kids) := by
  refine .mk _ _ h.len.symm hx (by show k * 32 ≤ _; omega) (fun i c hi => ?_) (fun c hc => (h.kids c hc).1.kept (fun b hb => ⟨hb.1, hb.2.1⟩) (fun _ _ _ => rfl))
  have hil : i < kids.length := (List.getElem?_eq_some_iff.1 hi).1
  have hl := h.len
  rcases h.own.2 with ⟨_, hn⟩ | ⟨g, cap, cur, hv, hg, hh, _, _, _, htk⟩
  · omega
  · cases hv
    obtain ⟨h0, h1, h2, h3⟩ := cellsV_at hi
    rw [← htk, List.getElem?_take] at h0 h1 h2 h3
    rw [if_pos (by omega)] at h0 h1 h2 h3
    exact ⟨g, rfl, ⟨hg, (Array.getElem?_eq_some_iff.1 hh).1⟩, by simpa [World.cell?, hh] using h0, by simpa [World.cell?, hh] using h1, by simpa [World.cell?, hh] using h2, by simpa [World.cell?, hh] using h3⟩
theorem infoV : (Tryz.prog.info? 24).map (fun i => (i.zero, i.size, i.bytes)) = some (some (.agg #[.int .i64 0, .int .i64 0, .string ByteArray.empty, .slice none 0 0]), 4, 56) := by kernel_rfl
theorem undV : Tryz.prog.underlying 22 = some (.slice 24) := by kernel_rfl
end Go.Proofs.YtofboalgbgipoaaGreatDoor
