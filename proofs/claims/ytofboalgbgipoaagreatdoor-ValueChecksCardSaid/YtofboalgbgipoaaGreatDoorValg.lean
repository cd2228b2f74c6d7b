/- Values as they are put together. -/
import Derived.Test.YtofboalgbgipoaaGreatDoorValf
set_option linter.all false
namespace Go.Proofs.YtofboalgbgipoaaGreatDoor
open Go.RowKit Go.Shelf
attribute [local go_sem] Oper.semAt_some

set_option maxRecDepth 100000 in
set_option maxHeartbeats 1000000 in
theorem Int_any (n : Int) (w : World) :
    Calls Tryz.prog 35 #[.int .i64 n] w fun e w' => e = .returned (Node.val ⟨0, n, ByteArray.empty, none, 0, 0⟩) ∧ Below w.heap.size w w' := by
  go_enter Tryz.func35, Tryz.ntmps35
  go_wp2
  refine ⟨rfl, Node.val ⟨0, n, ByteArray.empty, none, 0, 0⟩, ?_, rfl, (Below.refl _ _).alloc (Nat.le_refl _) _⟩
  simp [results, Tryz.f35, go_sem, Node.val]
  rfl

set_option maxRecDepth 100000 in
set_option maxHeartbeats 1000000 in
theorem Text_any (s : ByteArray) (w : World) :
    Calls Tryz.prog 36 #[.string s] w fun e w' => e = .returned (Node.val ⟨1, 0, s, none, 0, 0⟩) ∧ Below w.heap.size w w' := by
  go_enter Tryz.func36, Tryz.ntmps36
  go_wp2
  refine ⟨rfl, Node.val ⟨1, 0, s, none, 0, 0⟩, ?_, rfl, (Below.refl _ _).alloc (Nat.le_refl _) _⟩
  simp [results, Tryz.f36, go_sem, Node.val]

set_option maxRecDepth 100000 in
set_option maxHeartbeats 1000000 in
theorem Tuple_any (a : Option Addr) (len cap : Nat) (w : World) :
    Calls Tryz.prog 38 #[.slice a len cap] w fun e w' => e = .returned (Node.val ⟨2, 0, ByteArray.empty, a, len, cap⟩) ∧ Below w.heap.size w w' := by
  go_enter Tryz.func38, Tryz.ntmps38
  go_wp2
  refine ⟨rfl, Node.val ⟨2, 0, ByteArray.empty, a, len, cap⟩, ?_, rfl, (Below.refl _ _).alloc (Nat.le_refl _) _⟩
  simp [results, Tryz.f38, go_sem, Node.val]
  rfl

set_option maxRecDepth 100000 in
set_option maxHeartbeats 1000000 in
theorem Tag_raw (n : Int) (x : Node) (w : World) :
    Calls Tryz.prog 41 #[.int .i64 n, x.val] w fun e w' => e = .returned (Node.val ⟨3, n, ByteArray.empty, some ⟨w.heap.size + 2, 0, none⟩, 1, 1⟩) ∧ w'.heap.size = w.heap.size + 3 ∧ Below w.heap.size w w' ∧
      w'.cell? ⟨w.heap.size + 2, 0, none⟩ = some (.int .i64 x.k) ∧ w'.cell? ⟨w.heap.size + 2, 1, none⟩ = some (.int .i64 x.n) ∧ w'.cell? ⟨w.heap.size + 2, 2, none⟩ = some (.string x.s) ∧ w'.cell? ⟨w.heap.size + 2, 3, none⟩ = some (.slice x.a x.len x.cap) := by
  obtain ⟨xk, xn, xs, xa, xl, xc⟩ := x
  dsimp only [Node.val]
  go_enter Tryz.func41, Tryz.ntmps41
  go_wp2
  have hb : Below w.heap.size w (((w.alloc (Obj.cells #[Value.int IntKind.i64 xk, Value.int IntKind.i64 xn, Value.string xs, Value.slice xa xl xc] 24)).alloc (Obj.cells #[Value.int IntKind.i64 3, Value.int IntKind.i64 n, Value.string { data := #[] }, Value.slice (some { block := w.heap.size + 1 + 1, off := 0 }) 1 1] 24)).alloc (Obj.cells #[Value.int IntKind.i64 xk, Value.int IntKind.i64 xn, Value.string xs, Value.slice xa xl xc] 24)) :=
    (((Below.refl _ _).alloc (Nat.le_refl _) _).alloc (by simp) _).alloc (by simp; omega) _
  refine ⟨rfl, Node.val ⟨3, n, ByteArray.empty, some ⟨w.heap.size + 2, 0, none⟩, 1, 1⟩, ?_, rfl, by simp, hb, ?_⟩
  · simp [results, Tryz.f41, go_sem, Node.val]
    rfl
  · simp [go_sem]

/-- A value behind a number, as a tree. -/
def LT.tag (n : Int) (b : Nat) (T : LT) : LT := .mk ⟨3, n, ByteArray.empty, some ⟨b, 0, none⟩, 1, 1⟩ [T]
theorem IsT.node {n₀ : Nat} {W : World} {T : LT} (h : IsT n₀ W T) : T.node.len = T.kids.length ∧ T.node.s.size ≤ maxLen ∧ T.node.len * 32 ≤ 140737488351232 := by
  cases h with
  | mk x l hlen hs hm hc hk => exact ⟨hlen, hs, hm⟩
theorem Tag_any (n : Int) (T : LT) (w : World) (hT : IsT w.heap.size w T) :
    Calls Tryz.prog 41 #[.int .i64 n, T.node.val] w fun e w' => e = .returned (LT.tag n (w.heap.size + 2) T).node.val ∧ IsT w'.heap.size w' (LT.tag n (w.heap.size + 2) T) ∧ Below w.heap.size w w' := by
  refine (Tag_raw n T.node w).mono ?_
  rintro e w' ⟨rfl, hs, hb, h0, h1, h2, h3⟩
  refine ⟨rfl, .mk _ _ rfl (by simp [maxLen]) (by simp) (fun i c hi => ?_) (fun c hc => ?_), hb⟩
  · rcases i with _ | i
    · simp at hi
      subst hi
      exact ⟨_, _, rfl, by omega, by simpa using h0, by simpa using h1, by simpa using h2, by simpa using h3⟩
    · simp at hi
  · rw [List.mem_singleton.1 hc]
    exact (hT.bel hb).more hb.size
end Go.Proofs.YtofboalgbgipoaaGreatDoor
