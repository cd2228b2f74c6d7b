/- Trees of values as they lie in memory, and the walk over them. -/
import Derived.Test.YtofboalgbgipoaaGreatDoorVala
import Derived.RangeFuncNested
import Derived.RangeFuncBound
import Derived.RangeFuncCalls
import Derived.RangeFuncLeaves
import Derived.Shelf.Abstract
import Derived.Shelf.RegionOpen
import Derived.OwnWalkIn
import Derived.TacticsInMore
import Derived.LoopNIn
import Derived.LoopIn
set_option linter.all false
namespace Go.Proofs.YtofboalgbgipoaaGreatDoor
open Go.RowKit Go.Shelf
attribute [local go_sem] Oper.semAt_some

/-- A value by itself: its fields, and where its parts lie. -/
structure Node where
  k : Int
  n : Int
  s : ByteArray
  a : Option Addr
  len : Nat
  cap : Nat
abbrev Node.val (x : Node) : Value := .agg #[.int .i64 x.k, .int .i64 x.n, .string x.s, .slice x.a x.len x.cap]
/-- A value with its parts. -/
inductive LT where
  | mk (x : Node) (l : List LT)
def LT.node : LT → Node | .mk x _ => x
def LT.kids : LT → List LT | .mk _ l => l
mutual
def LT.pre (d : Int) : LT → List (Int × Node)
  | .mk x l => (d, x) :: LT.preL (d + 1) l
def LT.preL (d : Int) : List LT → List (Int × Node)
  | [] => []
  | t :: l => LT.pre d t ++ LT.preL d l
end
theorem LT.preL_append (d : Int) : ∀ (l m : List LT), LT.preL d (l ++ m) = LT.preL d l ++ LT.preL d m
  | [], m => by simp [LT.preL]
  | t :: l, m => by simp [LT.preL, LT.preL_append d l m]
theorem LT.preL_take (d : Int) {l : List LT} {i : Nat} {c : LT} (h : l[i]? = some c) : LT.preL d (l.take (i + 1)) = LT.preL d (l.take i) ++ LT.pre d c := by
  have hl := (List.getElem?_eq_some_iff.1 h)
  rw [List.take_succ_eq_append_getElem hl.1, LT.preL_append, hl.2]
  simp [LT.preL]
theorem LT.preL_prefix (d : Int) (l : List LT) (i : Nat) : LT.preL d (l.take i) <+: LT.preL d l := by
  conv => rhs; rw [← List.take_append_drop i l]
  rw [LT.preL_append]
  exact List.prefix_append _ _
theorem LT.pre_le_preL (d : Int) {l : List LT} {i : Nat} {c : LT} (h : l[i]? = some c) : (LT.preL d (l.take i)).length + (LT.pre d c).length ≤ (LT.preL d l).length := by
  have h1 := (LT.preL_prefix d l (i + 1)).length_le
  rw [LT.preL_take d h] at h1
  simpa using h1

mutual
/-- Depths as a machine counts them. -/
def LT.preW (d : Int) : LT → List (Int × Node)
  | .mk x l => (d, x) :: LT.preWL (wrap64 (d + 1)) l
def LT.preWL (d : Int) : List LT → List (Int × Node)
  | [] => []
  | t :: l => LT.preW d t ++ LT.preWL d l
end
theorem LT.preWL_append (d : Int) : ∀ (l m : List LT), LT.preWL d (l ++ m) = LT.preWL d l ++ LT.preWL d m
  | [], m => by simp [LT.preWL]
  | t :: l, m => by simp [LT.preWL, LT.preWL_append d l m]
theorem LT.preWL_take (d : Int) {l : List LT} {i : Nat} {c : LT} (h : l[i]? = some c) : LT.preWL d (l.take (i + 1)) = LT.preWL d (l.take i) ++ LT.preW d c := by
  have hl := (List.getElem?_eq_some_iff.1 h)
  rw [List.take_succ_eq_append_getElem hl.1, LT.preWL_append, hl.2]
  simp [LT.preWL]
theorem LT.preWL_prefix (d : Int) (l : List LT) (i : Nat) : LT.preWL d (l.take i) <+: LT.preWL d l := by
  conv => rhs; rw [← List.take_append_drop i l]
  rw [LT.preWL_append]
  exact List.prefix_append _ _
theorem LT.preW_le_preWL (d : Int) {l : List LT} {i : Nat} {c : LT} (h : l[i]? = some c) : (LT.preWL d (l.take i)).length + (LT.preW d c).length ≤ (LT.preWL d l).length := by
  have h1 := (LT.preWL_prefix d l (i + 1)).length_le
  rw [LT.preWL_take d h] at h1
  simpa using h1
mutual
def LT.ht : LT → Nat
  | .mk _ l => LT.htL l + 1
def LT.htL : List LT → Nat
  | [] => 0
  | t :: l => max (LT.ht t) (LT.htL l)
end
theorem LT.ht_mem : ∀ {l : List LT} {c : LT}, c ∈ l → c.ht ≤ LT.htL l
  | t :: l, c, h => by
    simp only [LT.htL]
    rcases List.mem_cons.1 h with rfl | h
    · omega
    · have := LT.ht_mem h; omega
mutual
theorem LT.preW_eq : ∀ (T : LT) (d : Int), 0 ≤ d → d + T.ht ≤ 1000000000000 → LT.preW d T = LT.pre d T
  | .mk x l, d, h0, h1 => by
    simp only [LT.ht] at h1
    have : wrap64 (d + 1) = d + 1 := IntWalk.wrap64_in _ (by omega)
    simp only [LT.preW, LT.pre, this]
    rw [LT.preWL_eq l (d + 1) (by omega) (by omega)]
theorem LT.preWL_eq : ∀ (l : List LT) (d : Int), 0 ≤ d → d + LT.htL l ≤ 1000000000000 → LT.preWL d l = LT.preL d l
  | [], d, _, _ => by simp [LT.preWL, LT.preL]
  | t :: l, d, h0, h1 => by
    simp only [LT.htL] at h1
    simp only [LT.preWL, LT.preL]
    rw [LT.preW_eq t d h0 (by omega), LT.preWL_eq l d h0 (by omega)]
end
theorem LT.htL_get {k : Nat} : ∀ {l : List LT}, k < LT.htL l → ∃ c ∈ l, k < c.ht
  | [], h => by simp [LT.htL] at h
  | t :: l, h => by
    simp only [LT.htL] at h
    by_cases h1 : k < t.ht
    · exact ⟨t, by simp, h1⟩
    · obtain ⟨c, hc, hk⟩ := LT.htL_get (l := l) (k := k) (by omega)
      exact ⟨c, by simp [hc], hk⟩
theorem LT.preW_kid {d : Int} : ∀ {l : List LT} {c : LT} {x : Int × Node}, c ∈ l → x ∈ LT.preW d c → x ∈ LT.preWL d l
  | t :: l, c, x, h, hx => by
    simp only [LT.preWL, List.mem_append]
    rcases List.mem_cons.1 h with rfl | h
    · exact .inl hx
    · exact .inr (LT.preW_kid h hx)
theorem LT.preL_kid {d : Int} : ∀ {l : List LT} {c : LT} {x : Int × Node}, c ∈ l → x ∈ LT.pre d c → x ∈ LT.preL d l
  | t :: l, c, x, h, hx => by
    simp only [LT.preL, List.mem_append]
    rcases List.mem_cons.1 h with rfl | h
    · exact .inl hx
    · exact .inr (LT.preL_kid h hx)
/-- A value that is deep has values at each depth. -/
theorem LT.at_depth : ∀ (k : Nat) (T : LT) (d : Int), k < T.ht → 0 ≤ d → d + k ≤ 1000 → (∃ x ∈ LT.preW d T, x.1 = d + k) ∧ (∃ x ∈ LT.pre d T, x.1 = d + k)
  | 0, .mk x l, d, _, _, _ => ⟨⟨(d, x), by simp [LT.preW], by simp⟩, ⟨(d, x), by simp [LT.pre], by simp⟩⟩
  | k + 1, .mk x l, d, h, h0, h1 => by
    simp only [LT.ht] at h
    obtain ⟨c, hc, hk⟩ := LT.htL_get (l := l) (k := k) (by omega)
    obtain ⟨⟨y, hy, e⟩, ⟨z, hz, e'⟩⟩ := LT.at_depth k c (d + 1) hk (by omega) (by omega)
    have hw : wrap64 (d + 1) = d + 1 := IntWalk.wrap64_in _ (by omega)
    refine ⟨⟨y, ?_, by rw [e]; omega⟩, ⟨z, ?_, by rw [e']; omega⟩⟩
    · simp only [LT.preW, hw]; exact List.mem_cons_of_mem _ (LT.preW_kid hc hy)
    · simp only [LT.pre]; exact List.mem_cons_of_mem _ (LT.preL_kid hc hz)
/-- The tree lies in blocks below n₀. -/
inductive IsT (n₀ : Nat) (W : World) : LT → Prop
  | mk (x : Node) (l : List LT) (hlen : x.len = l.length) (hs : x.s.size ≤ maxLen) (hm : x.len * 32 ≤ 140737488351232)
      (hc : ∀ (i : Nat) (c : LT), l[i]? = some c → ∃ b off, x.a = some ⟨b, off, none⟩ ∧ b < n₀ ∧ W.cell? ⟨b, off + i * 4, none⟩ = some (.int .i64 c.node.k) ∧ W.cell? ⟨b, off + i * 4 + 1, none⟩ = some (.int .i64 c.node.n) ∧
        W.cell? ⟨b, off + i * 4 + 2, none⟩ = some (.string c.node.s) ∧ W.cell? ⟨b, off + i * 4 + 3, none⟩ = some (.slice c.node.a c.node.len c.node.cap))
      (hk : ∀ c ∈ l, IsT n₀ W c) : IsT n₀ W (.mk x l)
theorem IsT.bel {n₀ : Nat} {A B : World} (h : Below n₀ A B) {T : LT} (ht : IsT n₀ A T) : IsT n₀ B T := by
  induction ht with
  | mk x l hlen hs hm hc _ ih =>
    refine .mk x l hlen hs hm (fun i c hi => ?_) ih
    obtain ⟨b, off, ha, hb, h0, h1, h2, h3⟩ := hc i c hi
    exact ⟨b, off, ha, hb, (h.cell (p := ⟨b, _, none⟩) hb).trans h0, (h.cell (p := ⟨b, _, none⟩) hb).trans h1, (h.cell (p := ⟨b, _, none⟩) hb).trans h2, (h.cell (p := ⟨b, _, none⟩) hb).trans h3⟩
theorem IsT.more {n₀ n₁ : Nat} {A : World} (h : n₀ ≤ n₁) {T : LT} (ht : IsT n₀ A T) : IsT n₁ A T := by
  induction ht with
  | mk x l hlen hs hm hc _ ih =>
    refine .mk x l hlen hs hm (fun i c hi => ?_) ih
    obtain ⟨b, off, ha, hb, h4⟩ := hc i c hi
    exact ⟨b, off, ha, by omega, h4⟩

/-- What a round keeps: what lay below n₀, and all rows but one. -/
def Kc (n₀ q : Nat) (W W' : World) : Prop := Below n₀ W W' ∧ ∀ r c t f, r ≠ q → W.heap[r]? = some (.cells c t f) → W'.heap[r]? = some (.cells c t f)
theorem Kc.refl (n₀ q : Nat) (W : World) : Kc n₀ q W W := ⟨Below.refl _ _, fun _ _ _ _ _ h => h⟩
theorem Kc.trans {n₀ q : Nat} {W W' W'' : World} (h : Kc n₀ q W W') (h' : Kc n₀ q W' W'') : Kc n₀ q W W'' := ⟨h.1.trans h'.1, fun r c t f hr hc => h'.2 r c t f hr (h.2 r c t f hr hc)⟩
theorem Kc.of_below {n₀ q : Nat} {W W' : World} (h : Below W.heap.size W W') (h1 : n₀ ≤ W.heap.size) : Kc n₀ q W W' :=
  ⟨h.mono h1, fun r c t f _ hc => by rw [h.block r (Array.getElem?_eq_some_iff.1 hc).1]; exact hc⟩
theorem Kc.cell {n₀ q : Nat} {W W' : World} (h : Kc n₀ q W W') {b o : Nat} {v : Value} (hb : b ≠ q) (hc : W.cell? ⟨b, o, none⟩ = some v) : W'.cell? ⟨b, o, none⟩ = some v := by
  unfold World.cell? at hc ⊢
  split at hc <;> try (cases hc; done)
  rename_i c t f hh
  rw [h.2 b c t f hb hh]
  exact hc
theorem cell_lt {W : World} {b o : Nat} {v : Value} (h : W.cell? ⟨b, o, none⟩ = some v) : b < W.heap.size := by
  unfold World.cell? at h
  split at h <;> try (cases h; done)
  rename_i hh
  exact (Array.getElem?_eq_some_iff.1 hh).1
theorem grown_of_below {W W' : World} (h : Below W.heap.size W W') : W.grownBy W' none :=
  ⟨h.os, h.tape, h.output, h.size, fun k hk _ => h.block k hk⟩
theorem AbidesFrom.below {β : Type} {B : Nat} {J : β → World → Prop} (h : AbidesFrom B J) {s : β} {W W' : World} (hs : J s W) (hb : Below W.heap.size W W') : J s W' :=
  h s W W' none hs (grown_of_below hb) (fun r e => by cases e)
theorem room_of_none {F : Fence} (hd : F.depth = none) (k : Nat) : F.room k := fun d h => by rw [hd] at h; cases h
theorem RoundIn.anyDepth {F : Fence} (hd : F.depth = none) {m m' : Nat} {P : Program} {l : Nat} {f : FuncId} {tmps : Array Value} {assign body : Code} {w : World} {R : Ending → World → Prop}
    (h : RoundIn F m P l f tmps assign body w R) : RoundIn F m' P l f tmps assign body w R := ⟨h.1, fun c cs _ => h.2 c cs (room_of_none hd _)⟩
theorem YieldAt.anyDepth {F : Fence} (hd : F.depth = none) {m : Nat} (m' : Nat) {P : Program} {l : Nat} {args : Array Value} {W : World} {R : Ending → World → Prop} (h : YieldAt F m P l args W R) : YieldAt F m' P l args W R := by
  obtain ⟨fn, tmps, assign, body, hy, hR⟩ := h
  exact ⟨fn, tmps, assign, body, hy, RoundIn.anyDepth hd hR⟩

/-- The parts of a value. -/
theorem parts_in (F : Fence) (n : Nat) (h : F.fn 20) (hro : F.round = none) (x : Node) (w : World) :
    CallsIn F n Tryz.prog 20 #[x.val] w fun e w' => e = .returned (.slice x.a x.len x.cap) ∧ Below w.heap.size w w' := by
  refine callsIn_of_wp Tryz.func20 rfl h ?_ hro
  simp only [Tryz.ntmps20, List.size_toArray, List.length_cons, List.length_nil, Nat.reduceAdd, Nat.reduceSub, Array.replicate_succ, Array.replicate_zero, List.push_toArray, List.append_toArray, List.nil_append, List.cons_append]
  gi_wp2
  go_ret
  exact ⟨rfl, (Below.refl _ _).alloc (Nat.le_refl _) _⟩
end Go.Proofs.YtofboalgbgipoaaGreatDoor
