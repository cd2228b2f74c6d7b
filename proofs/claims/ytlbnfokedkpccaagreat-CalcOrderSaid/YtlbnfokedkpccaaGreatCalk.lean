/- What is refused: refuse.Attempt of a function that refuses; Bin, of what it does not take. -/
import Derived.Test.YtlbnfokedkpccaaGreatCalh
import Derived.WalkLawsBesides
set_option linter.all false
namespace Go.Proofs.YtlbnfokedkpccaaGreat
open Go.RowKit Go.Shelf
attribute [local go_sem] Oper.semAt_some

/-- What is panicked with. -/
def refusal (n : Int) : PanicEntry := { v := .iface 147 (.agg #[.int .i64 n]), recovered := false }
set_option maxRecDepth 100000 in
set_option maxHeartbeats 1000000 in
theorem Attempt_refused (cap : Array Value) (why : Int) (w : World)
    (h : ∀ W, Below w.heap.size w W → Calls Tryz.prog 82 cap W fun e W' => e = .panicked [refusal why] ∧ Hid (Below W.heap.size W W')) :
    Calls Tryz.prog 73 #[.func (.func 82) #[] cap] w fun e w' => e = .returned (.tuple #[wordV 0, .int .i64 why]) ∧ Below w.heap.size w w' := by
  have hmf : ∀ (fn : Fn) (first cap : Array Value) (w : World), (Instr.makeFunc fn first cap).run Tryz.prog w = .ok (.func fn first cap) w := fun _ _ _ _ => rfl
  go_enter_defers Tryz.func73, Tryz.ntmps73
  have h2 : Below w.heap.size w ((w.alloc (.cells #[.int .i64 0, .int .i64 0, .string ⟨#[]⟩, .slice none 0 0] 44)).alloc (.cells #[.int .i64 0] 32)) := ((Below.refl _ _).alloc (Nat.le_refl _) _).alloc (by simp) _
  have HB := Lib.hid h2
  have HH := Lib.hid (h _ h2)
  have HQ := Lib.hid (box2' w #[.int .i64 0, .int .i64 0, .string ⟨#[]⟩, .slice none 0 0] #[.int .i64 0] 44 32)
  clear h h2
  go_wp2_with (go_at_call 82; refine HH.out.mono ?_; rintro e w' ⟨rfl, H1⟩; obtain ⟨⟨b0, b1, b2, b3⟩, ⟨z0, z1, z2, z3⟩⟩ := cells4 ((H1.out.block _ (Array.getElem?_eq_some_iff.1 HQ.out.1).1).trans HQ.out.1); obtain ⟨c0, y0⟩ := cells1 ((H1.out.block _ (Array.getElem?_eq_some_iff.1 HQ.out.2).1).trans HQ.out.2))
  have hs := HB.out.size
  have hb : Below w.heap.size w w' := HB.out.trans (H1.out.mono hs)
  have hl : w.heap.size + 1 < w'.heap.size := (Array.getElem?_eq_some_iff.1 ((H1.out.block _ (Array.getElem?_eq_some_iff.1 HQ.out.2).1).trans HQ.out.2)).1
  unfold refusal
  refine leaves_cons (f := 125) (args := #[.pointer (some ⟨w.heap.size + 1, 0, none⟩)]) (by simp) (by simp [go_sem]) ?_
  refine (catch_refused (w.heap.size + 1) 0 why [] _ c0 y0 hl).mono ?_
  rintro e u' w'' ⟨rfl, rfl, hw⟩
  have hq : ∀ k v, w'.cell? ⟨w.heap.size, k, none⟩ = some v → w''.cell? ⟨w.heap.size, k, none⟩ = some v := fun k v hv => by
    rw [hw, World.cell?_alloc_past _ _ _ (by simp; omega)]
    simp [go_sem, hv]
  have q0 := hq 0 _ b0
  have q1 := hq 1 _ b1
  have q2 := hq 2 _ b2
  have q3 := hq 3 _ b3
  have qe : w''.cell? ⟨w.heap.size + 1, 0, none⟩ = some (.int .i64 why) := by
    rw [hw, World.cell?_alloc_past _ _ _ (by simp; omega)]
    simp [go_sem, c0]
  have hbw : Below w.heap.size w w'' := by
    rw [hw]
    exact ((hb.setCell (by simp) _).setCell (by simp) _).alloc (by simp; omega) _
  clear hw hq
  simp [Leaves, settle, results, Tryz.results73, go_sem, q0, q1, q2, q3, qe, wordV]
  exact hbw
set_option maxRecDepth 100000 in
set_option maxHeartbeats 1000000 in
theorem Unless_no (n : Int) (w : World) : Calls Tryz.prog 75 #[.bool false, .int .i64 n] w fun e w' => e = .panicked [refusal n] ∧ w' = w := by
  go_enter Tryz.func75, Tryz.ntmps75
  go_wp2
  exact ⟨rfl, rfl, rfl⟩

/-- A world in which the closure's variables stand, and how it comes on. -/
theorem Fr.start {w : World} {p q r : Nat} {o : Int} {x y : Node}
    (hp : w.heap[p]? = some (.cells #[.int .i64 o] 3 (0, 0))) (hq : w.heap[q]? = some (.cells #[.int .i64 x.k, .int .i64 x.n, .string x.s, .slice x.a x.len x.cap] 44 (0, 0))) (hr : w.heap[r]? = some (.cells #[.int .i64 y.k, .int .i64 y.n, .string y.s, .slice y.a y.len y.cap] 44 (0, 0))) :
    Fr w (w.alloc (.cells #[.int .i64 0, .int .i64 0, .string ⟨#[]⟩, .slice none 0 0] 44)) p q r o x y :=
  ⟨(Below.refl _ _).alloc (Nat.le_refl _) _, blk ((Below.refl _ _).alloc (Nat.le_refl _) _) hp, blk ((Below.refl _ _).alloc (Nat.le_refl _) _) hq, blk ((Below.refl _ _).alloc (Nat.le_refl _) _) hr, World.alloc_heap_new w _⟩

set_option maxRecDepth 100000 in
set_option maxHeartbeats 4000000 in
theorem Bin1_op (o : Int) (ho : o < 0 ∨ 12 ≤ o) (x y : Node) (p q r : Nat) (w : World) 
    (hp : w.heap[p]? = some (.cells #[.int .i64 o] 3 (0, 0))) (hq : w.heap[q]? = some (.cells #[.int .i64 x.k, .int .i64 x.n, .string x.s, .slice x.a x.len x.cap] 44 (0, 0))) (hr : w.heap[r]? = some (.cells #[.int .i64 y.k, .int .i64 y.n, .string y.s, .slice y.a y.len y.cap] 44 (0, 0))) :
    Calls Tryz.prog 82 #[.pointer (some ⟨p, 0, none⟩), .pointer (some ⟨q, 0, none⟩), .pointer (some ⟨r, 0, none⟩)] w fun e w' => e = .panicked [refusal 1] ∧ Below w.heap.size w w' := by
  have F0 := Lib.hid (Fr.start hp hq hr)
  clear hp hq hr
  have c0 := (cells1 F0.out.hp).1
  rcases ho with h | h
  · have h1 : ¬ (0 : Int) ≤ o := by omega
    go_enter Tryz.func82, Tryz.ntmps82
    go_wp2_with (first
      | (go_at_call 83; go_in)
      | (go_at_call 75; refine (Unless_no _ _).mono ?_; rintro e w' ⟨rfl, rfl⟩))
    exact ⟨rfl, rfl, F0.out.bel⟩
  · have h1 : (0 : Int) ≤ o := by omega
    have h2 : ¬ o < 12 := by omega
    go_enter Tryz.func82, Tryz.ntmps82
    go_wp2_with (first
      | (go_at_call 83; go_in)
      | (go_at_call 75; refine (Unless_no _ _).mono ?_; rintro e w' ⟨rfl, rfl⟩))
    exact ⟨rfl, rfl, F0.out.bel⟩

set_option maxRecDepth 100000 in
set_option maxHeartbeats 4000000 in
theorem Bin1_arg (o : Int) (h0 : 0 ≤ o) (h12 : o < 12) (A B : LT) (hAB : validF A = false ∨ validF B = false) (hSA : Sized A) (hSB : Sized B) (n₀ : Nat) (p q r : Nat) (w : World) (hTA : IsT n₀ w A) (hTB : IsT n₀ w B) (hn : n₀ ≤ w.heap.size)
    (hp : w.heap[p]? = some (.cells #[.int .i64 o] 3 (0, 0))) (hq : w.heap[q]? = some (.cells #[.int .i64 A.node.k, .int .i64 A.node.n, .string A.node.s, .slice A.node.a A.node.len A.node.cap] 44 (0, 0))) (hr : w.heap[r]? = some (.cells #[.int .i64 B.node.k, .int .i64 B.node.n, .string B.node.s, .slice B.node.a B.node.len B.node.cap] 44 (0, 0))) :
    Calls Tryz.prog 82 #[.pointer (some ⟨p, 0, none⟩), .pointer (some ⟨q, 0, none⟩), .pointer (some ⟨r, 0, none⟩)] w fun e w' => e = .panicked [refusal 1] ∧ Below w.heap.size w w' := by
  have iv : ∀ V : LT, Sized V → IsT n₀ w V → ∀ W, Below w.heap.size w W → Calls Tryz.prog 84 #[V.node.val] W fun e w' => e = .returned (.bool (validF V)) ∧ Hid (Below W.heap.size W w') := by
    intro V hS hT W hW
    exact (isValue_any V hS n₀ W (hT.bel (hW.mono hn)) (by have := hW.size; omega)).mono fun e w' h => ⟨h.1, Lib.hid h.2⟩
  have HA := Lib.hid (iv A hSA hTA)
  have HB := Lib.hid (iv B hSB hTB)
  have F0 := Lib.hid (Fr.start hp hq hr)
  clear iv hSA hSB hTA hTB hn hp hq hr
  have c0 := (cells1 F0.out.hp).1
  obtain ⟨⟨xk, xn, xs, xa, xl, xc⟩, l⟩ := A
  obtain ⟨⟨yk, yn, ys, ya, yl, yc⟩, m⟩ := B
  dsimp only [LT.node, Node.val] at HA HB F0
  obtain ⟨⟨q0, q1, q2, q3⟩, _⟩ := cells4 F0.out.hq
  cases hvA : validF (.mk ⟨xk, xn, xs, xa, xl, xc⟩ l) with
  | false =>
    rw [hvA] at HA
    clear hvA hAB
    go_enter Tryz.func82, Tryz.ntmps82
    go_wp2_with (first
      | (go_at_call 83; go_in)
      | (go_at_call 84; refine (HA.out _ F0.out.bel).mono ?_; rintro e W1 ⟨rfl, H1⟩; have F1 := Lib.hid (F0.out.on' H1))
      | (go_at_call 75; refine (Unless_no _ _).mono ?_; rintro e w' ⟨rfl, rfl⟩))
    exact ⟨rfl, rfl, F1.out.bel⟩
  | true =>
    have hvB : validF (.mk ⟨yk, yn, ys, ya, yl, yc⟩ m) = false := by rcases hAB with h | h; (rw [hvA] at h; cases h); exact h
    rw [hvA] at HA
    rw [hvB] at HB
    clear hvA hvB hAB
    go_enter Tryz.func82, Tryz.ntmps82
    go_wp2_with (first
      | (go_at_call 83; go_in)
      | (have hh := F0; clear hh; go_at_call 84; refine (HA.out _ F0.out.bel).mono ?_; rintro e W1 ⟨rfl, H1⟩; have F1 := Lib.hid (F0.out.on' H1); clear F0; obtain ⟨⟨r0, r1, r2, r3⟩, _⟩ := cells4 F1.out.hr)
      | (go_at_call 84; refine (HB.out _ F1.out.bel).mono ?_; rintro e W2 ⟨rfl, H2⟩; have F2 := Lib.hid (F1.out.on' H2))
      | (go_at_call 75; refine (Unless_no _ _).mono ?_; rintro e w' ⟨rfl, rfl⟩))
    exact ⟨rfl, rfl, F2.out.bel⟩
end Go.Proofs.YtlbnfokedkpccaaGreat
