/- Trees of types as they lie in memory. -/
import Derived.Test.YtofboalgbgipoaaGreatDoorVale
set_option linter.all false
namespace Go.Proofs.YtofboalgbgipoaaGreatDoor
open Go.RowKit Go.Shelf
attribute [local go_sem] Oper.semAt_some

/-- A type by itself: its kind, and where its parts lie. -/
structure TNode where
  k : Int
  a : Option Addr
  len : Nat
  cap : Nat
abbrev TNode.val (x : TNode) : Value := .agg #[.int .i64 x.k, .slice x.a x.len x.cap]
/-- A value with its parts. -/
inductive YT where
  | mk (x : TNode) (l : List YT)
def YT.node : YT → TNode | .mk x _ => x
def YT.kids : YT → List YT | .mk _ l => l
mutual
def YT.pre (d : Int) : YT → List (Int × TNode)
  | .mk x l => (d, x) :: YT.preL (d + 1) l
def YT.preL (d : Int) : List YT → List (Int × TNode)
  | [] => []
  | t :: l => YT.pre d t ++ YT.preL d l
end
theorem YT.preL_append (d : Int) : ∀ (l m : List YT), YT.preL d (l ++ m) = YT.preL d l ++ YT.preL d m
  | [], m => by simp [YT.preL]
  | t :: l, m => by simp [YT.preL, YT.preL_append d l m]
theorem YT.preL_take (d : Int) {l : List YT} {i : Nat} {c : YT} (h : l[i]? = some c) : YT.preL d (l.take (i + 1)) = YT.preL d (l.take i) ++ YT.pre d c := by
  have hl := (List.getElem?_eq_some_iff.1 h)
  rw [List.take_succ_eq_append_getElem hl.1, YT.preL_append, hl.2]
  simp [YT.preL]
theorem YT.preL_prefix (d : Int) (l : List YT) (i : Nat) : YT.preL d (l.take i) <+: YT.preL d l := by
  conv => rhs; rw [← List.take_append_drop i l]
  rw [YT.preL_append]
  exact List.prefix_append _ _
theorem YT.pre_le_preL (d : Int) {l : List YT} {i : Nat} {c : YT} (h : l[i]? = some c) : (YT.preL d (l.take i)).length + (YT.pre d c).length ≤ (YT.preL d l).length := by
  have h1 := (YT.preL_prefix d l (i + 1)).length_le
  rw [YT.preL_take d h] at h1
  simpa using h1

mutual
/-- Depths as a machine counts them. -/
def YT.preW (d : Int) : YT → List (Int × TNode)
  | .mk x l => (d, x) :: YT.preWL (wrap64 (d + 1)) l
def YT.preWL (d : Int) : List YT → List (Int × TNode)
  | [] => []
  | t :: l => YT.preW d t ++ YT.preWL d l
end
theorem YT.preWL_append (d : Int) : ∀ (l m : List YT), YT.preWL d (l ++ m) = YT.preWL d l ++ YT.preWL d m
  | [], m => by simp [YT.preWL]
  | t :: l, m => by simp [YT.preWL, YT.preWL_append d l m]
theorem YT.preWL_take (d : Int) {l : List YT} {i : Nat} {c : YT} (h : l[i]? = some c) : YT.preWL d (l.take (i + 1)) = YT.preWL d (l.take i) ++ YT.preW d c := by
  have hl := (List.getElem?_eq_some_iff.1 h)
  rw [List.take_succ_eq_append_getElem hl.1, YT.preWL_append, hl.2]
  simp [YT.preWL]
theorem YT.preWL_prefix (d : Int) (l : List YT) (i : Nat) : YT.preWL d (l.take i) <+: YT.preWL d l := by
  conv => rhs; rw [← List.take_append_drop i l]
  rw [YT.preWL_append]
  exact List.prefix_append _ _
theorem YT.preW_le_preWL (d : Int) {l : List YT} {i : Nat} {c : YT} (h : l[i]? = some c) : (YT.preWL d (l.take i)).length + (YT.preW d c).length ≤ (YT.preWL d l).length := by
  have h1 := (YT.preWL_prefix d l (i + 1)).length_le
  rw [YT.preWL_take d h] at h1
  simpa using h1
mutual
def YT.ht : YT → Nat
  | .mk _ l => YT.htL l + 1
def YT.htL : List YT → Nat
  | [] => 0
  | t :: l => max (YT.ht t) (YT.htL l)
end
theorem YT.ht_mem : ∀ {l : List YT} {c : YT}, c ∈ l → c.ht ≤ YT.htL l
  | t :: l, c, h => by
    simp only [YT.htL]
    rcases List.mem_cons.1 h with rfl | h
    · omega
    · have := YT.ht_mem h; omega
mutual
theorem YT.preW_eq : ∀ (T : YT) (d : Int), 0 ≤ d → d + T.ht ≤ 1000000000000 → YT.preW d T = YT.pre d T
  | .mk x l, d, h0, h1 => by
    simp only [YT.ht] at h1
    have : wrap64 (d + 1) = d + 1 := IntWalk.wrap64_in _ (by omega)
    simp only [YT.preW, YT.pre, this]
    rw [YT.preWL_eq l (d + 1) (by omega) (by omega)]
theorem YT.preWL_eq : ∀ (l : List YT) (d : Int), 0 ≤ d → d + YT.htL l ≤ 1000000000000 → YT.preWL d l = YT.preL d l
  | [], d, _, _ => by simp [YT.preWL, YT.preL]
  | t :: l, d, h0, h1 => by
    simp only [YT.htL] at h1
    simp only [YT.preWL, YT.preL]
    rw [YT.preW_eq t d h0 (by omega), YT.preWL_eq l d h0 (by omega)]
end
theorem YT.htL_get {k : Nat} : ∀ {l : List YT}, k < YT.htL l → ∃ c ∈ l, k < c.ht
  | [], h => by simp [YT.htL] at h
  | t :: l, h => by
    simp only [YT.htL] at h
    by_cases h1 : k < t.ht
    · exact ⟨t, by simp, h1⟩
    · obtain ⟨c, hc, hk⟩ := YT.htL_get (l := l) (k := k) (by omega)
      exact ⟨c, by simp [hc], hk⟩
theorem YT.preW_kid {d : Int} : ∀ {l : List YT} {c : YT} {x : Int × TNode}, c ∈ l → x ∈ YT.preW d c → x ∈ YT.preWL d l
  | t :: l, c, x, h, hx => by
    simp only [YT.preWL, List.mem_append]
    rcases List.mem_cons.1 h with rfl | h
    · exact .inl hx
    · exact .inr (YT.preW_kid h hx)
theorem YT.preL_kid {d : Int} : ∀ {l : List YT} {c : YT} {x : Int × TNode}, c ∈ l → x ∈ YT.pre d c → x ∈ YT.preL d l
  | t :: l, c, x, h, hx => by
    simp only [YT.preL, List.mem_append]
    rcases List.mem_cons.1 h with rfl | h
    · exact .inl hx
    · exact .inr (YT.preL_kid h hx)
/-- A value that is deep has values at each depth. -/
theorem YT.at_depth : ∀ (k : Nat) (T : YT) (d : Int), k < T.ht → 0 ≤ d → d + k ≤ 1000 → (∃ x ∈ YT.preW d T, x.1 = d + k) ∧ (∃ x ∈ YT.pre d T, x.1 = d + k)
  | 0, .mk x l, d, _, _, _ => ⟨⟨(d, x), by simp [YT.preW], by simp⟩, ⟨(d, x), by simp [YT.pre], by simp⟩⟩
  | k + 1, .mk x l, d, h, h0, h1 => by
    simp only [YT.ht] at h
    obtain ⟨c, hc, hk⟩ := YT.htL_get (l := l) (k := k) (by omega)
    obtain ⟨⟨y, hy, e⟩, ⟨z, hz, e'⟩⟩ := YT.at_depth k c (d + 1) hk (by omega) (by omega)
    have hw : wrap64 (d + 1) = d + 1 := IntWalk.wrap64_in _ (by omega)
    refine ⟨⟨y, ?_, by rw [e]; omega⟩, ⟨z, ?_, by rw [e']; omega⟩⟩
    · simp only [YT.preW, hw]; exact List.mem_cons_of_mem _ (YT.preW_kid hc hy)
    · simp only [YT.pre]; exact List.mem_cons_of_mem _ (YT.preL_kid hc hz)
/-- The tree lies in blocks below n₀. -/
inductive IsY (n₀ : Nat) (W : World) : YT → Prop
  | mk (x : TNode) (l : List YT) (hlen : x.len = l.length) (hm : x.len * 16 ≤ 140737488351232)
      (hc : ∀ (i : Nat) (c : YT), l[i]? = some c → ∃ b off, x.a = some ⟨b, off, none⟩ ∧ b < n₀ ∧ W.cell? ⟨b, off + i * 2, none⟩ = some (.int .i64 c.node.k) ∧ W.cell? ⟨b, off + i * 2 + 1, none⟩ = some (.slice c.node.a c.node.len c.node.cap))
      (hk : ∀ c ∈ l, IsY n₀ W c) : IsY n₀ W (.mk x l)
theorem IsY.bel {n₀ : Nat} {A B : World} (h : Below n₀ A B) {T : YT} (ht : IsY n₀ A T) : IsY n₀ B T := by
  induction ht with
  | mk x l hlen hm hc _ ih =>
    refine .mk x l hlen hm (fun i c hi => ?_) ih
    obtain ⟨b, off, ha, hb, h0, h1⟩ := hc i c hi
    exact ⟨b, off, ha, hb, (h.cell (p := ⟨b, _, none⟩) hb).trans h0, (h.cell (p := ⟨b, _, none⟩) hb).trans h1⟩
theorem IsY.more {n₀ n₁ : Nat} {A : World} (h : n₀ ≤ n₁) {T : YT} (ht : IsY n₀ A T) : IsY n₁ A T := by
  induction ht with
  | mk x l hlen hm hc _ ih =>
    refine .mk x l hlen hm (fun i c hi => ?_) ih
    obtain ⟨b, off, ha, hb, h4⟩ := hc i c hi
    exact ⟨b, off, ha, by omega, h4⟩
/-- The parts of a type. -/
theorem tparts_in (F : Fence) (n : Nat) (h : F.fn 49) (hro : F.round = none) (x : TNode) (w : World) :
    CallsIn F n Tryz.prog 49 #[x.val] w fun e w' => e = .returned (.slice x.a x.len x.cap) ∧ Below w.heap.size w w' := by
  refine callsIn_of_wp Tryz.func49 rfl h ?_ hro
  simp only [Tryz.ntmps49, List.size_toArray, List.length_cons, List.length_nil, Nat.reduceAdd, Nat.reduceSub, Array.replicate_succ, Array.replicate_zero, List.push_toArray, List.append_toArray, List.nil_append, List.cons_append]
  gi_wp2
  go_ret
  exact ⟨rfl, (Below.refl _ _).alloc (Nat.le_refl _) _⟩
end Go.Proofs.YtofboalgbgipoaaGreatDoor
