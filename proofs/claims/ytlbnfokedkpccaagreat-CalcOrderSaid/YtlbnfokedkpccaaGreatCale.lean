/- What an operation makes of two values. -/
import Derived.Test.YtlbnfokedkpccaaGreatCald
import Derived.Deep.QuietTactic
import Derived.BigQuiet
set_option linter.all false
namespace Go.Proofs.YtlbnfokedkpccaaGreat
open Go.RowKit Go.Shelf
attribute [local go_sem] Oper.semAt_some

/-- A word. -/
def wordV (n : Int) : Value := .agg #[.int .i64 0, .int .i64 n, .string ⟨#[]⟩, .slice none 0 0]
set_option maxHeartbeats 1000000 in
theorem wordOf_any (n : Int) (w : World) : Calls Tryz.prog 134 #[.int .i64 n] w fun e w' => e = .returned (wordV n) ∧ Below w.heap.size w w' := by
  go_enter Tryz.func134, Tryz.ntmps134
  go_wp2
  refine ⟨rfl, wordV n, ?_, rfl, (Below.refl _ _).alloc (Nat.le_refl _) _⟩
  simp [results, Tryz.f134, go_sem, wordV]
theorem below3 (w : World) (a b c : Array Value) (t : TypeId) : Below w.heap.size w (((w.alloc (.cells a t)).alloc (.cells b t)).alloc (.cells c t)) ∧ (((w.alloc (.cells a t)).alloc (.cells b t)).alloc (.cells c t)).heap[w.heap.size]? = some (.cells a t (0, 0)) ∧ (((w.alloc (.cells a t)).alloc (.cells b t)).alloc (.cells c t)).heap[w.heap.size + 1]? = some (.cells b t (0, 0)) ∧ (((w.alloc (.cells a t)).alloc (.cells b t)).alloc (.cells c t)).heap[w.heap.size + 2]? = some (.cells c t (0, 0)) := by
  have h := box2 w a b t
  refine ⟨(((Below.refl _ _).alloc (Nat.le_refl _) _).alloc (by simp) _).alloc (by simp; omega) _, ?_, ?_, ?_⟩
  · exact (Below.heap_alloc _ _ _ (by simp; omega)).trans h.1
  · exact (Below.heap_alloc _ _ _ (by simp)).trans h.2
  · have := World.alloc_heap_new ((w.alloc (.cells a t)).alloc (.cells b t)) (.cells c t)
    simpa using this

set_option maxRecDepth 100000 in
set_option maxHeartbeats 2000000 in
theorem done_0 (x y : Node) (hx : In x.n) (hy : In y.n) (w : World) : Calls Tryz.prog 87 #[.int .i64 0, x.val, y.val] w fun e w' => e = .returned (wordV (ans 0 x.n y.n)) ∧ Below w.heap.size w w' := by
  obtain ⟨xk, xn, xs, xa, xl, xc⟩ := x
  obtain ⟨yk, yn, ys, ya, yl, yc⟩ := y
  dsimp only [Node.val, wordV] at hx hy ⊢
  have HO : Hid (Op1 162 0 xn yn) := Lib.hid (op_add xn yn hx hy)
  have HI : Hid (In (ans 0 xn yn)) := Lib.hid (ans_in hx hy)
  clear hx hy
  obtain ⟨r, hr⟩ : ∃ r, ans 0 xn yn = r := ⟨_, rfl⟩
  rw [hr] at HI ⊢
  have HR := Lib.hid hr
  clear hr
  have HB := Lib.hid (below3 w #[.int .i64 xk, .int .i64 xn, .string xs, .slice xa xl xc] #[.int .i64 yk, .int .i64 yn, .string ys, .slice ya yl yc] #[.int .i64 0, .int .i64 0, .string ⟨#[]⟩, .slice none 0 0] 44)
  go_enter Tryz.func87, Tryz.ntmps87
  go_wp2
  generalize (((w.alloc (.cells #[.int .i64 xk, .int .i64 xn, .string xs, .slice xa xl xc] 44)).alloc (.cells #[.int .i64 yk, .int .i64 yn, .string ys, .slice ya yl yc] 44)).alloc (.cells #[.int .i64 0, .int .i64 0, .string ⟨#[]⟩, .slice none 0 0] 44)) = W0 at HB ⊢
  obtain ⟨⟨_, a1, _, _⟩, _⟩ := cells4 HB.out.2.1
  obtain ⟨⟨_, b1, _, _⟩, _⟩ := cells4 HB.out.2.2.1
  go_quiet (fail)
  have HN : Hid (Below w.heap.size w (W0.drewN nq) ∧ (W0.drewN nq).heap[w.heap.size + 2]? = some (.cells #[.int .i64 0, .int .i64 0, .string ⟨#[]⟩, .slice none 0 0] 44 (0, 0))) := Lib.hid ⟨HB.out.1.trans ⟨rfl, rfl, rfl, Nat.le_refl _, fun _ _ => rfl⟩, HB.out.2.2.2⟩
  clear a1 b1 HB
  generalize W0.drewN nq = W1 at HN ⊢
  have HW := Lib.hid (wordOps_any W1)
  have hw64 : wrap64 r = r := by have := HI.out; unfold In at this; unfold wrap64; omega
  have hix := opTab_0
  have hfl := opField
  go_wp2_with (first
    | (go_at_call 85; go_in)
    | (go_at_call 133; refine HW.out.mono ?_; rintro e W2 ⟨rfl, H2⟩)
    | (go_at_call 162; refine (HO.out _).mono ?_; rintro e W3 ⟨z, rfl, hz, rfl⟩; rw [HR.out] at hz; obtain ⟨⟨c0, c1, c2, c3⟩, ⟨d0, d1, d2, d3⟩⟩ := cells4 ((H2.block _ (Array.getElem?_eq_some_iff.1 HN.out.2).1).trans HN.out.2))
    | (go_at_call 134; refine (wordOf_any _ _).mono ?_; rintro e W4 ⟨rfl, H4⟩; have HW2 := Lib.hid (HN.out.1.trans (H2.mono HN.out.1.size)); have HW4 := Lib.hid (HW2.out.trans (H4.mono HW2.out.size)); obtain ⟨⟨e0, e1, e2, e3⟩, ⟨g0, g1, g2, g3⟩⟩ := cells4 ((H4.block _ (Array.getElem?_eq_some_iff.1 ((H2.block _ (Array.getElem?_eq_some_iff.1 HN.out.2).1).trans HN.out.2)).1).trans ((H2.block _ (Array.getElem?_eq_some_iff.1 HN.out.2).1).trans HN.out.2)); unfold wordV))
  refine ⟨rfl, .agg #[.int .i64 0, .int .i64 r, .string ⟨#[]⟩, .slice none 0 0], ?_, rfl, ?_⟩
  · simp [results, Tryz.f87, go_sem, e0, e1, e2, e3]
  · exact (((HW4.out.setCell (by simp; omega) _).setCell (by simp; omega) _).setCell (by simp; omega) _).setCell (by simp; omega) _

set_option maxRecDepth 100000 in
set_option maxHeartbeats 2000000 in
theorem done_1 (x y : Node) (hx : In x.n) (hy : In y.n) (w : World) : Calls Tryz.prog 87 #[.int .i64 1, x.val, y.val] w fun e w' => e = .returned (wordV (ans 1 x.n y.n)) ∧ Below w.heap.size w w' := by
  obtain ⟨xk, xn, xs, xa, xl, xc⟩ := x
  obtain ⟨yk, yn, ys, ya, yl, yc⟩ := y
  dsimp only [Node.val, wordV] at hx hy ⊢
  have HO : Hid (Op1 163 1 xn yn) := Lib.hid (op_sub xn yn hx hy)
  have HI : Hid (In (ans 1 xn yn)) := Lib.hid (ans_in hx hy)
  clear hx hy
  obtain ⟨r, hr⟩ : ∃ r, ans 1 xn yn = r := ⟨_, rfl⟩
  rw [hr] at HI ⊢
  have HR := Lib.hid hr
  clear hr
  have HB := Lib.hid (below3 w #[.int .i64 xk, .int .i64 xn, .string xs, .slice xa xl xc] #[.int .i64 yk, .int .i64 yn, .string ys, .slice ya yl yc] #[.int .i64 0, .int .i64 0, .string ⟨#[]⟩, .slice none 0 0] 44)
  go_enter Tryz.func87, Tryz.ntmps87
  go_wp2
  generalize (((w.alloc (.cells #[.int .i64 xk, .int .i64 xn, .string xs, .slice xa xl xc] 44)).alloc (.cells #[.int .i64 yk, .int .i64 yn, .string ys, .slice ya yl yc] 44)).alloc (.cells #[.int .i64 0, .int .i64 0, .string ⟨#[]⟩, .slice none 0 0] 44)) = W0 at HB ⊢
  obtain ⟨⟨_, a1, _, _⟩, _⟩ := cells4 HB.out.2.1
  obtain ⟨⟨_, b1, _, _⟩, _⟩ := cells4 HB.out.2.2.1
  go_quiet (fail)
  have HN : Hid (Below w.heap.size w (W0.drewN nq) ∧ (W0.drewN nq).heap[w.heap.size + 2]? = some (.cells #[.int .i64 0, .int .i64 0, .string ⟨#[]⟩, .slice none 0 0] 44 (0, 0))) := Lib.hid ⟨HB.out.1.trans ⟨rfl, rfl, rfl, Nat.le_refl _, fun _ _ => rfl⟩, HB.out.2.2.2⟩
  clear a1 b1 HB
  generalize W0.drewN nq = W1 at HN ⊢
  have HW := Lib.hid (wordOps_any W1)
  have hw64 : wrap64 r = r := by have := HI.out; unfold In at this; unfold wrap64; omega
  have hix := opTab_1
  have hfl := opField
  go_wp2_with (first
    | (go_at_call 85; go_in)
    | (go_at_call 133; refine HW.out.mono ?_; rintro e W2 ⟨rfl, H2⟩)
    | (go_at_call 163; refine (HO.out _).mono ?_; rintro e W3 ⟨z, rfl, hz, rfl⟩; rw [HR.out] at hz; obtain ⟨⟨c0, c1, c2, c3⟩, ⟨d0, d1, d2, d3⟩⟩ := cells4 ((H2.block _ (Array.getElem?_eq_some_iff.1 HN.out.2).1).trans HN.out.2))
    | (go_at_call 134; refine (wordOf_any _ _).mono ?_; rintro e W4 ⟨rfl, H4⟩; have HW2 := Lib.hid (HN.out.1.trans (H2.mono HN.out.1.size)); have HW4 := Lib.hid (HW2.out.trans (H4.mono HW2.out.size)); obtain ⟨⟨e0, e1, e2, e3⟩, ⟨g0, g1, g2, g3⟩⟩ := cells4 ((H4.block _ (Array.getElem?_eq_some_iff.1 ((H2.block _ (Array.getElem?_eq_some_iff.1 HN.out.2).1).trans HN.out.2)).1).trans ((H2.block _ (Array.getElem?_eq_some_iff.1 HN.out.2).1).trans HN.out.2)); unfold wordV))
  refine ⟨rfl, .agg #[.int .i64 0, .int .i64 r, .string ⟨#[]⟩, .slice none 0 0], ?_, rfl, ?_⟩
  · simp [results, Tryz.f87, go_sem, e0, e1, e2, e3]
  · exact (((HW4.out.setCell (by simp; omega) _).setCell (by simp; omega) _).setCell (by simp; omega) _).setCell (by simp; omega) _

set_option maxRecDepth 100000 in
set_option maxHeartbeats 2000000 in
theorem done_2 (x y : Node) (hx : In x.n) (hy : In y.n) (w : World) : Calls Tryz.prog 87 #[.int .i64 2, x.val, y.val] w fun e w' => e = .returned (wordV (ans 2 x.n y.n)) ∧ Below w.heap.size w w' := by
  obtain ⟨xk, xn, xs, xa, xl, xc⟩ := x
  obtain ⟨yk, yn, ys, ya, yl, yc⟩ := y
  dsimp only [Node.val, wordV] at hx hy ⊢
  have HO : Hid (Op1 164 2 xn yn) := Lib.hid (op_mul xn yn hx hy)
  have HI : Hid (In (ans 2 xn yn)) := Lib.hid (ans_in hx hy)
  clear hx hy
  obtain ⟨r, hr⟩ : ∃ r, ans 2 xn yn = r := ⟨_, rfl⟩
  rw [hr] at HI ⊢
  have HR := Lib.hid hr
  clear hr
  have HB := Lib.hid (below3 w #[.int .i64 xk, .int .i64 xn, .string xs, .slice xa xl xc] #[.int .i64 yk, .int .i64 yn, .string ys, .slice ya yl yc] #[.int .i64 0, .int .i64 0, .string ⟨#[]⟩, .slice none 0 0] 44)
  go_enter Tryz.func87, Tryz.ntmps87
  go_wp2
  generalize (((w.alloc (.cells #[.int .i64 xk, .int .i64 xn, .string xs, .slice xa xl xc] 44)).alloc (.cells #[.int .i64 yk, .int .i64 yn, .string ys, .slice ya yl yc] 44)).alloc (.cells #[.int .i64 0, .int .i64 0, .string ⟨#[]⟩, .slice none 0 0] 44)) = W0 at HB ⊢
  obtain ⟨⟨_, a1, _, _⟩, _⟩ := cells4 HB.out.2.1
  obtain ⟨⟨_, b1, _, _⟩, _⟩ := cells4 HB.out.2.2.1
  go_quiet (fail)
  have HN : Hid (Below w.heap.size w (W0.drewN nq) ∧ (W0.drewN nq).heap[w.heap.size + 2]? = some (.cells #[.int .i64 0, .int .i64 0, .string ⟨#[]⟩, .slice none 0 0] 44 (0, 0))) := Lib.hid ⟨HB.out.1.trans ⟨rfl, rfl, rfl, Nat.le_refl _, fun _ _ => rfl⟩, HB.out.2.2.2⟩
  clear a1 b1 HB
  generalize W0.drewN nq = W1 at HN ⊢
  have HW := Lib.hid (wordOps_any W1)
  have hw64 : wrap64 r = r := by have := HI.out; unfold In at this; unfold wrap64; omega
  have hix := opTab_2
  have hfl := opField
  go_wp2_with (first
    | (go_at_call 85; go_in)
    | (go_at_call 133; refine HW.out.mono ?_; rintro e W2 ⟨rfl, H2⟩)
    | (go_at_call 164; refine (HO.out _).mono ?_; rintro e W3 ⟨z, rfl, hz, rfl⟩; rw [HR.out] at hz; obtain ⟨⟨c0, c1, c2, c3⟩, ⟨d0, d1, d2, d3⟩⟩ := cells4 ((H2.block _ (Array.getElem?_eq_some_iff.1 HN.out.2).1).trans HN.out.2))
    | (go_at_call 134; refine (wordOf_any _ _).mono ?_; rintro e W4 ⟨rfl, H4⟩; have HW2 := Lib.hid (HN.out.1.trans (H2.mono HN.out.1.size)); have HW4 := Lib.hid (HW2.out.trans (H4.mono HW2.out.size)); obtain ⟨⟨e0, e1, e2, e3⟩, ⟨g0, g1, g2, g3⟩⟩ := cells4 ((H4.block _ (Array.getElem?_eq_some_iff.1 ((H2.block _ (Array.getElem?_eq_some_iff.1 HN.out.2).1).trans HN.out.2)).1).trans ((H2.block _ (Array.getElem?_eq_some_iff.1 HN.out.2).1).trans HN.out.2)); unfold wordV))
  refine ⟨rfl, .agg #[.int .i64 0, .int .i64 r, .string ⟨#[]⟩, .slice none 0 0], ?_, rfl, ?_⟩
  · simp [results, Tryz.f87, go_sem, e0, e1, e2, e3]
  · exact (((HW4.out.setCell (by simp; omega) _).setCell (by simp; omega) _).setCell (by simp; omega) _).setCell (by simp; omega) _

set_option maxRecDepth 100000 in
set_option maxHeartbeats 2000000 in
theorem done_3 (x y : Node) (hx : In x.n) (hy : In y.n) (w : World) : Calls Tryz.prog 87 #[.int .i64 3, x.val, y.val] w fun e w' => e = .returned (wordV (ans 3 x.n y.n)) ∧ Below w.heap.size w w' := by
  obtain ⟨xk, xn, xs, xa, xl, xc⟩ := x
  obtain ⟨yk, yn, ys, ya, yl, yc⟩ := y
  dsimp only [Node.val, wordV] at hx hy ⊢
  have HO : Hid (Op1 165 3 xn yn) := Lib.hid (op_div xn yn hx hy)
  have HI : Hid (In (ans 3 xn yn)) := Lib.hid (ans_in hx hy)
  clear hx hy
  obtain ⟨r, hr⟩ : ∃ r, ans 3 xn yn = r := ⟨_, rfl⟩
  rw [hr] at HI ⊢
  have HR := Lib.hid hr
  clear hr
  have HB := Lib.hid (below3 w #[.int .i64 xk, .int .i64 xn, .string xs, .slice xa xl xc] #[.int .i64 yk, .int .i64 yn, .string ys, .slice ya yl yc] #[.int .i64 0, .int .i64 0, .string ⟨#[]⟩, .slice none 0 0] 44)
  go_enter Tryz.func87, Tryz.ntmps87
  go_wp2
  generalize (((w.alloc (.cells #[.int .i64 xk, .int .i64 xn, .string xs, .slice xa xl xc] 44)).alloc (.cells #[.int .i64 yk, .int .i64 yn, .string ys, .slice ya yl yc] 44)).alloc (.cells #[.int .i64 0, .int .i64 0, .string ⟨#[]⟩, .slice none 0 0] 44)) = W0 at HB ⊢
  obtain ⟨⟨_, a1, _, _⟩, _⟩ := cells4 HB.out.2.1
  obtain ⟨⟨_, b1, _, _⟩, _⟩ := cells4 HB.out.2.2.1
  go_quiet (fail)
  have HN : Hid (Below w.heap.size w (W0.drewN nq) ∧ (W0.drewN nq).heap[w.heap.size + 2]? = some (.cells #[.int .i64 0, .int .i64 0, .string ⟨#[]⟩, .slice none 0 0] 44 (0, 0))) := Lib.hid ⟨HB.out.1.trans ⟨rfl, rfl, rfl, Nat.le_refl _, fun _ _ => rfl⟩, HB.out.2.2.2⟩
  clear a1 b1 HB
  generalize W0.drewN nq = W1 at HN ⊢
  have HW := Lib.hid (wordOps_any W1)
  have hw64 : wrap64 r = r := by have := HI.out; unfold In at this; unfold wrap64; omega
  have hix := opTab_3
  have hfl := opField
  go_wp2_with (first
    | (go_at_call 85; go_in)
    | (go_at_call 133; refine HW.out.mono ?_; rintro e W2 ⟨rfl, H2⟩)
    | (go_at_call 165; refine (HO.out _).mono ?_; rintro e W3 ⟨z, rfl, hz, rfl⟩; rw [HR.out] at hz; obtain ⟨⟨c0, c1, c2, c3⟩, ⟨d0, d1, d2, d3⟩⟩ := cells4 ((H2.block _ (Array.getElem?_eq_some_iff.1 HN.out.2).1).trans HN.out.2))
    | (go_at_call 134; refine (wordOf_any _ _).mono ?_; rintro e W4 ⟨rfl, H4⟩; have HW2 := Lib.hid (HN.out.1.trans (H2.mono HN.out.1.size)); have HW4 := Lib.hid (HW2.out.trans (H4.mono HW2.out.size)); obtain ⟨⟨e0, e1, e2, e3⟩, ⟨g0, g1, g2, g3⟩⟩ := cells4 ((H4.block _ (Array.getElem?_eq_some_iff.1 ((H2.block _ (Array.getElem?_eq_some_iff.1 HN.out.2).1).trans HN.out.2)).1).trans ((H2.block _ (Array.getElem?_eq_some_iff.1 HN.out.2).1).trans HN.out.2)); unfold wordV))
  refine ⟨rfl, .agg #[.int .i64 0, .int .i64 r, .string ⟨#[]⟩, .slice none 0 0], ?_, rfl, ?_⟩
  · simp [results, Tryz.f87, go_sem, e0, e1, e2, e3]
  · exact (((HW4.out.setCell (by simp; omega) _).setCell (by simp; omega) _).setCell (by simp; omega) _).setCell (by simp; omega) _

set_option maxRecDepth 100000 in
set_option maxHeartbeats 2000000 in
theorem done_4 (x y : Node) (hx : In x.n) (hy : In y.n) (w : World) : Calls Tryz.prog 87 #[.int .i64 4, x.val, y.val] w fun e w' => e = .returned (wordV (ans 4 x.n y.n)) ∧ Below w.heap.size w w' := by
  obtain ⟨xk, xn, xs, xa, xl, xc⟩ := x
  obtain ⟨yk, yn, ys, ya, yl, yc⟩ := y
  dsimp only [Node.val, wordV] at hx hy ⊢
  have HO : Hid (Op1 166 4 xn yn) := Lib.hid (op_mod xn yn hx hy)
  have HI : Hid (In (ans 4 xn yn)) := Lib.hid (ans_in hx hy)
  clear hx hy
  obtain ⟨r, hr⟩ : ∃ r, ans 4 xn yn = r := ⟨_, rfl⟩
  rw [hr] at HI ⊢
  have HR := Lib.hid hr
  clear hr
  have HB := Lib.hid (below3 w #[.int .i64 xk, .int .i64 xn, .string xs, .slice xa xl xc] #[.int .i64 yk, .int .i64 yn, .string ys, .slice ya yl yc] #[.int .i64 0, .int .i64 0, .string ⟨#[]⟩, .slice none 0 0] 44)
  go_enter Tryz.func87, Tryz.ntmps87
  go_wp2
  generalize (((w.alloc (.cells #[.int .i64 xk, .int .i64 xn, .string xs, .slice xa xl xc] 44)).alloc (.cells #[.int .i64 yk, .int .i64 yn, .string ys, .slice ya yl yc] 44)).alloc (.cells #[.int .i64 0, .int .i64 0, .string ⟨#[]⟩, .slice none 0 0] 44)) = W0 at HB ⊢
  obtain ⟨⟨_, a1, _, _⟩, _⟩ := cells4 HB.out.2.1
  obtain ⟨⟨_, b1, _, _⟩, _⟩ := cells4 HB.out.2.2.1
  go_quiet (fail)
  have HN : Hid (Below w.heap.size w (W0.drewN nq) ∧ (W0.drewN nq).heap[w.heap.size + 2]? = some (.cells #[.int .i64 0, .int .i64 0, .string ⟨#[]⟩, .slice none 0 0] 44 (0, 0))) := Lib.hid ⟨HB.out.1.trans ⟨rfl, rfl, rfl, Nat.le_refl _, fun _ _ => rfl⟩, HB.out.2.2.2⟩
  clear a1 b1 HB
  generalize W0.drewN nq = W1 at HN ⊢
  have HW := Lib.hid (wordOps_any W1)
  have hw64 : wrap64 r = r := by have := HI.out; unfold In at this; unfold wrap64; omega
  have hix := opTab_4
  have hfl := opField
  go_wp2_with (first
    | (go_at_call 85; go_in)
    | (go_at_call 133; refine HW.out.mono ?_; rintro e W2 ⟨rfl, H2⟩)
    | (go_at_call 166; refine (HO.out _).mono ?_; rintro e W3 ⟨z, rfl, hz, rfl⟩; rw [HR.out] at hz; obtain ⟨⟨c0, c1, c2, c3⟩, ⟨d0, d1, d2, d3⟩⟩ := cells4 ((H2.block _ (Array.getElem?_eq_some_iff.1 HN.out.2).1).trans HN.out.2))
    | (go_at_call 134; refine (wordOf_any _ _).mono ?_; rintro e W4 ⟨rfl, H4⟩; have HW2 := Lib.hid (HN.out.1.trans (H2.mono HN.out.1.size)); have HW4 := Lib.hid (HW2.out.trans (H4.mono HW2.out.size)); obtain ⟨⟨e0, e1, e2, e3⟩, ⟨g0, g1, g2, g3⟩⟩ := cells4 ((H4.block _ (Array.getElem?_eq_some_iff.1 ((H2.block _ (Array.getElem?_eq_some_iff.1 HN.out.2).1).trans HN.out.2)).1).trans ((H2.block _ (Array.getElem?_eq_some_iff.1 HN.out.2).1).trans HN.out.2)); unfold wordV))
  refine ⟨rfl, .agg #[.int .i64 0, .int .i64 r, .string ⟨#[]⟩, .slice none 0 0], ?_, rfl, ?_⟩
  · simp [results, Tryz.f87, go_sem, e0, e1, e2, e3]
  · exact (((HW4.out.setCell (by simp; omega) _).setCell (by simp; omega) _).setCell (by simp; omega) _).setCell (by simp; omega) _

set_option maxRecDepth 100000 in
set_option maxHeartbeats 2000000 in
theorem done_5 (x y : Node) (hx : In x.n) (hy : In y.n) (w : World) : Calls Tryz.prog 87 #[.int .i64 5, x.val, y.val] w fun e w' => e = .returned (wordV (ans 5 x.n y.n)) ∧ Below w.heap.size w w' := by
  obtain ⟨xk, xn, xs, xa, xl, xc⟩ := x
  obtain ⟨yk, yn, ys, ya, yl, yc⟩ := y
  dsimp only [Node.val, wordV] at hx hy ⊢
  have HO : Hid (Op1 167 5 xn yn) := Lib.hid (op_min xn yn hx hy)
  have HI : Hid (In (ans 5 xn yn)) := Lib.hid (ans_in hx hy)
  clear hx hy
  obtain ⟨r, hr⟩ : ∃ r, ans 5 xn yn = r := ⟨_, rfl⟩
  rw [hr] at HI ⊢
  have HR := Lib.hid hr
  clear hr
  have HB := Lib.hid (below3 w #[.int .i64 xk, .int .i64 xn, .string xs, .slice xa xl xc] #[.int .i64 yk, .int .i64 yn, .string ys, .slice ya yl yc] #[.int .i64 0, .int .i64 0, .string ⟨#[]⟩, .slice none 0 0] 44)
  go_enter Tryz.func87, Tryz.ntmps87
  go_wp2
  generalize (((w.alloc (.cells #[.int .i64 xk, .int .i64 xn, .string xs, .slice xa xl xc] 44)).alloc (.cells #[.int .i64 yk, .int .i64 yn, .string ys, .slice ya yl yc] 44)).alloc (.cells #[.int .i64 0, .int .i64 0, .string ⟨#[]⟩, .slice none 0 0] 44)) = W0 at HB ⊢
  obtain ⟨⟨_, a1, _, _⟩, _⟩ := cells4 HB.out.2.1
  obtain ⟨⟨_, b1, _, _⟩, _⟩ := cells4 HB.out.2.2.1
  go_quiet (fail)
  have HN : Hid (Below w.heap.size w (W0.drewN nq) ∧ (W0.drewN nq).heap[w.heap.size + 2]? = some (.cells #[.int .i64 0, .int .i64 0, .string ⟨#[]⟩, .slice none 0 0] 44 (0, 0))) := Lib.hid ⟨HB.out.1.trans ⟨rfl, rfl, rfl, Nat.le_refl _, fun _ _ => rfl⟩, HB.out.2.2.2⟩
  clear a1 b1 HB
  generalize W0.drewN nq = W1 at HN ⊢
  have HW := Lib.hid (wordOps_any W1)
  have hw64 : wrap64 r = r := by have := HI.out; unfold In at this; unfold wrap64; omega
  have hix := opTab_5
  have hfl := opField
  go_wp2_with (first
    | (go_at_call 85; go_in)
    | (go_at_call 133; refine HW.out.mono ?_; rintro e W2 ⟨rfl, H2⟩)
    | (go_at_call 167; refine (HO.out _).mono ?_; rintro e W3 ⟨z, rfl, hz, rfl⟩; rw [HR.out] at hz; obtain ⟨⟨c0, c1, c2, c3⟩, ⟨d0, d1, d2, d3⟩⟩ := cells4 ((H2.block _ (Array.getElem?_eq_some_iff.1 HN.out.2).1).trans HN.out.2))
    | (go_at_call 134; refine (wordOf_any _ _).mono ?_; rintro e W4 ⟨rfl, H4⟩; have HW2 := Lib.hid (HN.out.1.trans (H2.mono HN.out.1.size)); have HW4 := Lib.hid (HW2.out.trans (H4.mono HW2.out.size)); obtain ⟨⟨e0, e1, e2, e3⟩, ⟨g0, g1, g2, g3⟩⟩ := cells4 ((H4.block _ (Array.getElem?_eq_some_iff.1 ((H2.block _ (Array.getElem?_eq_some_iff.1 HN.out.2).1).trans HN.out.2)).1).trans ((H2.block _ (Array.getElem?_eq_some_iff.1 HN.out.2).1).trans HN.out.2)); unfold wordV))
  refine ⟨rfl, .agg #[.int .i64 0, .int .i64 r, .string ⟨#[]⟩, .slice none 0 0], ?_, rfl, ?_⟩
  · simp [results, Tryz.f87, go_sem, e0, e1, e2, e3]
  · exact (((HW4.out.setCell (by simp; omega) _).setCell (by simp; omega) _).setCell (by simp; omega) _).setCell (by simp; omega) _

set_option maxRecDepth 100000 in
set_option maxHeartbeats 2000000 in
theorem done_6 (x y : Node) (hx : In x.n) (hy : In y.n) (w : World) : Calls Tryz.prog 87 #[.int .i64 6, x.val, y.val] w fun e w' => e = .returned (wordV (ans 6 x.n y.n)) ∧ Below w.heap.size w w' := by
  obtain ⟨xk, xn, xs, xa, xl, xc⟩ := x
  obtain ⟨yk, yn, ys, ya, yl, yc⟩ := y
  dsimp only [Node.val, wordV] at hx hy ⊢
  have HO : Hid (Op1 168 6 xn yn) := Lib.hid (op_max xn yn hx hy)
  have HI : Hid (In (ans 6 xn yn)) := Lib.hid (ans_in hx hy)
  clear hx hy
  obtain ⟨r, hr⟩ : ∃ r, ans 6 xn yn = r := ⟨_, rfl⟩
  rw [hr] at HI ⊢
  have HR := Lib.hid hr
  clear hr
  have HB := Lib.hid (below3 w #[.int .i64 xk, .int .i64 xn, .string xs, .slice xa xl xc] #[.int .i64 yk, .int .i64 yn, .string ys, .slice ya yl yc] #[.int .i64 0, .int .i64 0, .string ⟨#[]⟩, .slice none 0 0] 44)
  go_enter Tryz.func87, Tryz.ntmps87
  go_wp2
  generalize (((w.alloc (.cells #[.int .i64 xk, .int .i64 xn, .string xs, .slice xa xl xc] 44)).alloc (.cells #[.int .i64 yk, .int .i64 yn, .string ys, .slice ya yl yc] 44)).alloc (.cells #[.int .i64 0, .int .i64 0, .string ⟨#[]⟩, .slice none 0 0] 44)) = W0 at HB ⊢
  obtain ⟨⟨_, a1, _, _⟩, _⟩ := cells4 HB.out.2.1
  obtain ⟨⟨_, b1, _, _⟩, _⟩ := cells4 HB.out.2.2.1
  go_quiet (fail)
  have HN : Hid (Below w.heap.size w (W0.drewN nq) ∧ (W0.drewN nq).heap[w.heap.size + 2]? = some (.cells #[.int .i64 0, .int .i64 0, .string ⟨#[]⟩, .slice none 0 0] 44 (0, 0))) := Lib.hid ⟨HB.out.1.trans ⟨rfl, rfl, rfl, Nat.le_refl _, fun _ _ => rfl⟩, HB.out.2.2.2⟩
  clear a1 b1 HB
  generalize W0.drewN nq = W1 at HN ⊢
  have HW := Lib.hid (wordOps_any W1)
  have hw64 : wrap64 r = r := by have := HI.out; unfold In at this; unfold wrap64; omega
  have hix := opTab_6
  have hfl := opField
  go_wp2_with (first
    | (go_at_call 85; go_in)
    | (go_at_call 133; refine HW.out.mono ?_; rintro e W2 ⟨rfl, H2⟩)
    | (go_at_call 168; refine (HO.out _).mono ?_; rintro e W3 ⟨z, rfl, hz, rfl⟩; rw [HR.out] at hz; obtain ⟨⟨c0, c1, c2, c3⟩, ⟨d0, d1, d2, d3⟩⟩ := cells4 ((H2.block _ (Array.getElem?_eq_some_iff.1 HN.out.2).1).trans HN.out.2))
    | (go_at_call 134; refine (wordOf_any _ _).mono ?_; rintro e W4 ⟨rfl, H4⟩; have HW2 := Lib.hid (HN.out.1.trans (H2.mono HN.out.1.size)); have HW4 := Lib.hid (HW2.out.trans (H4.mono HW2.out.size)); obtain ⟨⟨e0, e1, e2, e3⟩, ⟨g0, g1, g2, g3⟩⟩ := cells4 ((H4.block _ (Array.getElem?_eq_some_iff.1 ((H2.block _ (Array.getElem?_eq_some_iff.1 HN.out.2).1).trans HN.out.2)).1).trans ((H2.block _ (Array.getElem?_eq_some_iff.1 HN.out.2).1).trans HN.out.2)); unfold wordV))
  refine ⟨rfl, .agg #[.int .i64 0, .int .i64 r, .string ⟨#[]⟩, .slice none 0 0], ?_, rfl, ?_⟩
  · simp [results, Tryz.f87, go_sem, e0, e1, e2, e3]
  · exact (((HW4.out.setCell (by simp; omega) _).setCell (by simp; omega) _).setCell (by simp; omega) _).setCell (by simp; omega) _

set_option maxRecDepth 100000 in
set_option maxHeartbeats 2000000 in
theorem done_7 (x y : Node) (hx : In x.n) (hy : In y.n) (w : World) : Calls Tryz.prog 87 #[.int .i64 7, x.val, y.val] w fun e w' => e = .returned (wordV (ans 7 x.n y.n)) ∧ Below w.heap.size w w' := by
  obtain ⟨xk, xn, xs, xa, xl, xc⟩ := x
  obtain ⟨yk, yn, ys, ya, yl, yc⟩ := y
  dsimp only [Node.val, wordV] at hx hy ⊢
  have HO : Hid (Op1 169 7 xn yn) := Lib.hid (op_and xn yn hx hy)
  have HI : Hid (In (ans 7 xn yn)) := Lib.hid (ans_in hx hy)
  clear hx hy
  obtain ⟨r, hr⟩ : ∃ r, ans 7 xn yn = r := ⟨_, rfl⟩
  rw [hr] at HI ⊢
  have HR := Lib.hid hr
  clear hr
  have HB := Lib.hid (below3 w #[.int .i64 xk, .int .i64 xn, .string xs, .slice xa xl xc] #[.int .i64 yk, .int .i64 yn, .string ys, .slice ya yl yc] #[.int .i64 0, .int .i64 0, .string ⟨#[]⟩, .slice none 0 0] 44)
  go_enter Tryz.func87, Tryz.ntmps87
  go_wp2
  generalize (((w.alloc (.cells #[.int .i64 xk, .int .i64 xn, .string xs, .slice xa xl xc] 44)).alloc (.cells #[.int .i64 yk, .int .i64 yn, .string ys, .slice ya yl yc] 44)).alloc (.cells #[.int .i64 0, .int .i64 0, .string ⟨#[]⟩, .slice none 0 0] 44)) = W0 at HB ⊢
  obtain ⟨⟨_, a1, _, _⟩, _⟩ := cells4 HB.out.2.1
  obtain ⟨⟨_, b1, _, _⟩, _⟩ := cells4 HB.out.2.2.1
  go_quiet (fail)
  have HN : Hid (Below w.heap.size w (W0.drewN nq) ∧ (W0.drewN nq).heap[w.heap.size + 2]? = some (.cells #[.int .i64 0, .int .i64 0, .string ⟨#[]⟩, .slice none 0 0] 44 (0, 0))) := Lib.hid ⟨HB.out.1.trans ⟨rfl, rfl, rfl, Nat.le_refl _, fun _ _ => rfl⟩, HB.out.2.2.2⟩
  clear a1 b1 HB
  generalize W0.drewN nq = W1 at HN ⊢
  have HW := Lib.hid (wordOps_any W1)
  have hw64 : wrap64 r = r := by have := HI.out; unfold In at this; unfold wrap64; omega
  have hix := opTab_7
  have hfl := opField
  go_wp2_with (first
    | (go_at_call 85; go_in)
    | (go_at_call 133; refine HW.out.mono ?_; rintro e W2 ⟨rfl, H2⟩)
    | (go_at_call 169; refine (HO.out _).mono ?_; rintro e W3 ⟨z, rfl, hz, rfl⟩; rw [HR.out] at hz; obtain ⟨⟨c0, c1, c2, c3⟩, ⟨d0, d1, d2, d3⟩⟩ := cells4 ((H2.block _ (Array.getElem?_eq_some_iff.1 HN.out.2).1).trans HN.out.2))
    | (go_at_call 134; refine (wordOf_any _ _).mono ?_; rintro e W4 ⟨rfl, H4⟩; have HW2 := Lib.hid (HN.out.1.trans (H2.mono HN.out.1.size)); have HW4 := Lib.hid (HW2.out.trans (H4.mono HW2.out.size)); obtain ⟨⟨e0, e1, e2, e3⟩, ⟨g0, g1, g2, g3⟩⟩ := cells4 ((H4.block _ (Array.getElem?_eq_some_iff.1 ((H2.block _ (Array.getElem?_eq_some_iff.1 HN.out.2).1).trans HN.out.2)).1).trans ((H2.block _ (Array.getElem?_eq_some_iff.1 HN.out.2).1).trans HN.out.2)); unfold wordV))
  refine ⟨rfl, .agg #[.int .i64 0, .int .i64 r, .string ⟨#[]⟩, .slice none 0 0], ?_, rfl, ?_⟩
  · simp [results, Tryz.f87, go_sem, e0, e1, e2, e3]
  · exact (((HW4.out.setCell (by simp; omega) _).setCell (by simp; omega) _).setCell (by simp; omega) _).setCell (by simp; omega) _

set_option maxRecDepth 100000 in
set_option maxHeartbeats 2000000 in
theorem done_8 (x y : Node) (hx : In x.n) (hy : In y.n) (w : World) : Calls Tryz.prog 87 #[.int .i64 8, x.val, y.val] w fun e w' => e = .returned (wordV (ans 8 x.n y.n)) ∧ Below w.heap.size w w' := by
  obtain ⟨xk, xn, xs, xa, xl, xc⟩ := x
  obtain ⟨yk, yn, ys, ya, yl, yc⟩ := y
  dsimp only [Node.val, wordV] at hx hy ⊢
  have HO : Hid (Op1 170 8 xn yn) := Lib.hid (op_or xn yn hx hy)
  have HI : Hid (In (ans 8 xn yn)) := Lib.hid (ans_in hx hy)
  clear hx hy
  obtain ⟨r, hr⟩ : ∃ r, ans 8 xn yn = r := ⟨_, rfl⟩
  rw [hr] at HI ⊢
  have HR := Lib.hid hr
  clear hr
  have HB := Lib.hid (below3 w #[.int .i64 xk, .int .i64 xn, .string xs, .slice xa xl xc] #[.int .i64 yk, .int .i64 yn, .string ys, .slice ya yl yc] #[.int .i64 0, .int .i64 0, .string ⟨#[]⟩, .slice none 0 0] 44)
  go_enter Tryz.func87, Tryz.ntmps87
  go_wp2
  generalize (((w.alloc (.cells #[.int .i64 xk, .int .i64 xn, .string xs, .slice xa xl xc] 44)).alloc (.cells #[.int .i64 yk, .int .i64 yn, .string ys, .slice ya yl yc] 44)).alloc (.cells #[.int .i64 0, .int .i64 0, .string ⟨#[]⟩, .slice none 0 0] 44)) = W0 at HB ⊢
  obtain ⟨⟨_, a1, _, _⟩, _⟩ := cells4 HB.out.2.1
  obtain ⟨⟨_, b1, _, _⟩, _⟩ := cells4 HB.out.2.2.1
  go_quiet (fail)
  have HN : Hid (Below w.heap.size w (W0.drewN nq) ∧ (W0.drewN nq).heap[w.heap.size + 2]? = some (.cells #[.int .i64 0, .int .i64 0, .string ⟨#[]⟩, .slice none 0 0] 44 (0, 0))) := Lib.hid ⟨HB.out.1.trans ⟨rfl, rfl, rfl, Nat.le_refl _, fun _ _ => rfl⟩, HB.out.2.2.2⟩
  clear a1 b1 HB
  generalize W0.drewN nq = W1 at HN ⊢
  have HW := Lib.hid (wordOps_any W1)
  have hw64 : wrap64 r = r := by have := HI.out; unfold In at this; unfold wrap64; omega
  have hix := opTab_8
  have hfl := opField
  go_wp2_with (first
    | (go_at_call 85; go_in)
    | (go_at_call 133; refine HW.out.mono ?_; rintro e W2 ⟨rfl, H2⟩)
    | (go_at_call 170; refine (HO.out _).mono ?_; rintro e W3 ⟨z, rfl, hz, rfl⟩; rw [HR.out] at hz; obtain ⟨⟨c0, c1, c2, c3⟩, ⟨d0, d1, d2, d3⟩⟩ := cells4 ((H2.block _ (Array.getElem?_eq_some_iff.1 HN.out.2).1).trans HN.out.2))
    | (go_at_call 134; refine (wordOf_any _ _).mono ?_; rintro e W4 ⟨rfl, H4⟩; have HW2 := Lib.hid (HN.out.1.trans (H2.mono HN.out.1.size)); have HW4 := Lib.hid (HW2.out.trans (H4.mono HW2.out.size)); obtain ⟨⟨e0, e1, e2, e3⟩, ⟨g0, g1, g2, g3⟩⟩ := cells4 ((H4.block _ (Array.getElem?_eq_some_iff.1 ((H2.block _ (Array.getElem?_eq_some_iff.1 HN.out.2).1).trans HN.out.2)).1).trans ((H2.block _ (Array.getElem?_eq_some_iff.1 HN.out.2).1).trans HN.out.2)); unfold wordV))
  refine ⟨rfl, .agg #[.int .i64 0, .int .i64 r, .string ⟨#[]⟩, .slice none 0 0], ?_, rfl, ?_⟩
  · simp [results, Tryz.f87, go_sem, e0, e1, e2, e3]
  · exact (((HW4.out.setCell (by simp; omega) _).setCell (by simp; omega) _).setCell (by simp; omega) _).setCell (by simp; omega) _

set_option maxRecDepth 100000 in
set_option maxHeartbeats 2000000 in
theorem done_9 (x y : Node) (hx : In x.n) (hy : In y.n) (w : World) : Calls Tryz.prog 87 #[.int .i64 9, x.val, y.val] w fun e w' => e = .returned (wordV (ans 9 x.n y.n)) ∧ Below w.heap.size w w' := by
  obtain ⟨xk, xn, xs, xa, xl, xc⟩ := x
  obtain ⟨yk, yn, ys, ya, yl, yc⟩ := y
  dsimp only [Node.val, wordV] at hx hy ⊢
  have HO : Hid (Op1 171 9 xn yn) := Lib.hid (op_xor xn yn hx hy)
  have HI : Hid (In (ans 9 xn yn)) := Lib.hid (ans_in hx hy)
  clear hx hy
  obtain ⟨r, hr⟩ : ∃ r, ans 9 xn yn = r := ⟨_, rfl⟩
  rw [hr] at HI ⊢
  have HR := Lib.hid hr
  clear hr
  have HB := Lib.hid (below3 w #[.int .i64 xk, .int .i64 xn, .string xs, .slice xa xl xc] #[.int .i64 yk, .int .i64 yn, .string ys, .slice ya yl yc] #[.int .i64 0, .int .i64 0, .string ⟨#[]⟩, .slice none 0 0] 44)
  go_enter Tryz.func87, Tryz.ntmps87
  go_wp2
  generalize (((w.alloc (.cells #[.int .i64 xk, .int .i64 xn, .string xs, .slice xa xl xc] 44)).alloc (.cells #[.int .i64 yk, .int .i64 yn, .string ys, .slice ya yl yc] 44)).alloc (.cells #[.int .i64 0, .int .i64 0, .string ⟨#[]⟩, .slice none 0 0] 44)) = W0 at HB ⊢
  obtain ⟨⟨_, a1, _, _⟩, _⟩ := cells4 HB.out.2.1
  obtain ⟨⟨_, b1, _, _⟩, _⟩ := cells4 HB.out.2.2.1
  go_quiet (fail)
  have HN : Hid (Below w.heap.size w (W0.drewN nq) ∧ (W0.drewN nq).heap[w.heap.size + 2]? = some (.cells #[.int .i64 0, .int .i64 0, .string ⟨#[]⟩, .slice none 0 0] 44 (0, 0))) := Lib.hid ⟨HB.out.1.trans ⟨rfl, rfl, rfl, Nat.le_refl _, fun _ _ => rfl⟩, HB.out.2.2.2⟩
  clear a1 b1 HB
  generalize W0.drewN nq = W1 at HN ⊢
  have HW := Lib.hid (wordOps_any W1)
  have hw64 : wrap64 r = r := by have := HI.out; unfold In at this; unfold wrap64; omega
  have hix := opTab_9
  have hfl := opField
  go_wp2_with (first
    | (go_at_call 85; go_in)
    | (go_at_call 133; refine HW.out.mono ?_; rintro e W2 ⟨rfl, H2⟩)
    | (go_at_call 171; refine (HO.out _).mono ?_; rintro e W3 ⟨z, rfl, hz, rfl⟩; rw [HR.out] at hz; obtain ⟨⟨c0, c1, c2, c3⟩, ⟨d0, d1, d2, d3⟩⟩ := cells4 ((H2.block _ (Array.getElem?_eq_some_iff.1 HN.out.2).1).trans HN.out.2))
    | (go_at_call 134; refine (wordOf_any _ _).mono ?_; rintro e W4 ⟨rfl, H4⟩; have HW2 := Lib.hid (HN.out.1.trans (H2.mono HN.out.1.size)); have HW4 := Lib.hid (HW2.out.trans (H4.mono HW2.out.size)); obtain ⟨⟨e0, e1, e2, e3⟩, ⟨g0, g1, g2, g3⟩⟩ := cells4 ((H4.block _ (Array.getElem?_eq_some_iff.1 ((H2.block _ (Array.getElem?_eq_some_iff.1 HN.out.2).1).trans HN.out.2)).1).trans ((H2.block _ (Array.getElem?_eq_some_iff.1 HN.out.2).1).trans HN.out.2)); unfold wordV))
  refine ⟨rfl, .agg #[.int .i64 0, .int .i64 r, .string ⟨#[]⟩, .slice none 0 0], ?_, rfl, ?_⟩
  · simp [results, Tryz.f87, go_sem, e0, e1, e2, e3]
  · exact (((HW4.out.setCell (by simp; omega) _).setCell (by simp; omega) _).setCell (by simp; omega) _).setCell (by simp; omega) _

set_option maxRecDepth 100000 in
set_option maxHeartbeats 2000000 in
theorem done_10 (A B : LT) (hA : validF A = true) (hB : validF B = true) (hSA : Sized A) (hSB : Sized B) (n₀ : Nat) (w : World) (hTA : IsT n₀ w A) (hTB : IsT n₀ w B) (hn : n₀ ≤ w.heap.size) : Calls Tryz.prog 87 #[.int .i64 10, A.node.val, B.node.val] w fun e w' => e = .returned (wordV (ans 10 (ordF A B) 0)) ∧ Below w.heap.size w w' := by
  obtain ⟨q, hq⟩ : ∃ q, ordF A B = q := ⟨_, rfl⟩
  have HC : Hid (∀ W, Below w.heap.size w W → Calls Tryz.prog 132 #[A.node.val, B.node.val] W fun e w' => e = .returned (.tuple #[.int .i64 q, .int .i64 0]) ∧ Hid (Below W.heap.size W w')) := Lib.hid fun W hW => by
    have h := Compare_all A B hSA hSB n₀ W (hTA.bel (hW.mono hn)) (hTB.bel (hW.mono hn)) (by have := hW.size; omega)
    simp only [cmpN, cmpE, hA, hB, and_self, if_true] at h
    rw [hq] at h
    exact h.mono fun e w' h => ⟨h.1, Lib.hid h.2⟩
  rw [hq]
  clear hq hTA hTB hSA hSB hn hA hB
  obtain ⟨⟨xk, xn, xs, xa, xl, xc⟩, l⟩ := A
  obtain ⟨⟨yk, yn, ys, ya, yl, yc⟩, m⟩ := B
  dsimp only [LT.node, Node.val, wordV] at HC ⊢
  have HO : Hid (Op1 172 10 q 0) := Lib.hid (op_less q 0)
  have HI : Hid (In (ans 10 q 0)) := Lib.hid (by unfold In ans; simp only []; split <;> omega)
  obtain ⟨r, hr⟩ : ∃ r, ans 10 q 0 = r := ⟨_, rfl⟩
  rw [hr] at HI ⊢
  have HR := Lib.hid hr
  clear hr
  have HB := Lib.hid (below3 w #[.int .i64 xk, .int .i64 xn, .string xs, .slice xa xl xc] #[.int .i64 yk, .int .i64 yn, .string ys, .slice ya yl yc] #[.int .i64 0, .int .i64 0, .string ⟨#[]⟩, .slice none 0 0] 44)
  go_enter Tryz.func87, Tryz.ntmps87
  go_wp2
  generalize (((w.alloc (.cells #[.int .i64 xk, .int .i64 xn, .string xs, .slice xa xl xc] 44)).alloc (.cells #[.int .i64 yk, .int .i64 yn, .string ys, .slice ya yl yc] 44)).alloc (.cells #[.int .i64 0, .int .i64 0, .string ⟨#[]⟩, .slice none 0 0] 44)) = W0 at HB ⊢
  obtain ⟨⟨_, a1, _, _⟩, _⟩ := cells4 HB.out.2.1
  obtain ⟨⟨_, b1, _, _⟩, _⟩ := cells4 HB.out.2.2.1
  go_quiet (fail)
  have HN : Hid (Below w.heap.size w (W0.drewN nq) ∧ (W0.drewN nq).heap[w.heap.size + 2]? = some (.cells #[.int .i64 0, .int .i64 0, .string ⟨#[]⟩, .slice none 0 0] 44 (0, 0)) ∧ (W0.drewN nq).heap[w.heap.size]? = some (.cells #[.int .i64 xk, .int .i64 xn, .string xs, .slice xa xl xc] 44 (0, 0)) ∧ (W0.drewN nq).heap[w.heap.size + 1]? = some (.cells #[.int .i64 yk, .int .i64 yn, .string ys, .slice ya yl yc] 44 (0, 0))) := Lib.hid ⟨HB.out.1.trans ⟨rfl, rfl, rfl, Nat.le_refl _, fun _ _ => rfl⟩, HB.out.2.2.2, HB.out.2.1, HB.out.2.2.1⟩
  clear a1 b1 HB
  generalize W0.drewN nq = W1 at HN ⊢
  obtain ⟨⟨a0, a1, a2, a3⟩, _⟩ := cells4 HN.out.2.2.1
  obtain ⟨⟨b0, b1, b2, b3⟩, _⟩ := cells4 HN.out.2.2.2
  have hw64 : wrap64 r = r := by have := HI.out; unfold In at this; unfold wrap64; omega
  have hix := opTab_10
  have hfl := opField
  go_wp2_with (first
    | (go_at_call 85; go_in)
    | (go_at_call 132; refine (HC.out _ HN.out.1).mono ?_; rintro e W5 ⟨rfl, H5⟩; have HN5 := Lib.hid (And.intro (HN.out.1.trans (H5.out.mono HN.out.1.size)) ((H5.out.block _ (Array.getElem?_eq_some_iff.1 HN.out.2.1).1).trans HN.out.2.1)); have HW := Lib.hid (wordOps_any W5))
    | (go_at_call 133; refine HW.out.mono ?_; rintro e W2 ⟨rfl, H2⟩)
    | (go_at_call 172; refine (HO.out _).mono ?_; rintro e W3 ⟨z, rfl, hz, rfl⟩; rw [HR.out] at hz; obtain ⟨⟨c0, c1, c2, c3⟩, ⟨d0, d1, d2, d3⟩⟩ := cells4 ((H2.block _ (Array.getElem?_eq_some_iff.1 HN5.out.2).1).trans HN5.out.2))
    | (go_at_call 134; refine (wordOf_any _ _).mono ?_; rintro e W4 ⟨rfl, H4⟩; have HW2 := Lib.hid (HN5.out.1.trans (H2.mono HN5.out.1.size)); have HW4 := Lib.hid (HW2.out.trans (H4.mono HW2.out.size)); obtain ⟨⟨e0, e1, e2, e3⟩, ⟨g0, g1, g2, g3⟩⟩ := cells4 ((H4.block _ (Array.getElem?_eq_some_iff.1 ((H2.block _ (Array.getElem?_eq_some_iff.1 HN5.out.2).1).trans HN5.out.2)).1).trans ((H2.block _ (Array.getElem?_eq_some_iff.1 HN5.out.2).1).trans HN5.out.2)); unfold wordV))
  refine ⟨rfl, .agg #[.int .i64 0, .int .i64 r, .string ⟨#[]⟩, .slice none 0 0], ?_, rfl, ?_⟩
  · simp [results, Tryz.f87, go_sem, e0, e1, e2, e3]
  · exact (((HW4.out.setCell (by simp; omega) _).setCell (by simp; omega) _).setCell (by simp; omega) _).setCell (by simp; omega) _

set_option maxRecDepth 100000 in
set_option maxHeartbeats 2000000 in
theorem done_11 (A B : LT) (hA : validF A = true) (hB : validF B = true) (hSA : Sized A) (hSB : Sized B) (n₀ : Nat) (w : World) (hTA : IsT n₀ w A) (hTB : IsT n₀ w B) (hn : n₀ ≤ w.heap.size) : Calls Tryz.prog 87 #[.int .i64 11, A.node.val, B.node.val] w fun e w' => e = .returned (wordV (ans 11 (ordF A B) 0)) ∧ Below w.heap.size w w' := by
  obtain ⟨q, hq⟩ : ∃ q, ordF A B = q := ⟨_, rfl⟩
  have HC : Hid (∀ W, Below w.heap.size w W → Calls Tryz.prog 132 #[A.node.val, B.node.val] W fun e w' => e = .returned (.tuple #[.int .i64 q, .int .i64 0]) ∧ Hid (Below W.heap.size W w')) := Lib.hid fun W hW => by
    have h := Compare_all A B hSA hSB n₀ W (hTA.bel (hW.mono hn)) (hTB.bel (hW.mono hn)) (by have := hW.size; omega)
    simp only [cmpN, cmpE, hA, hB, and_self, if_true] at h
    rw [hq] at h
    exact h.mono fun e w' h => ⟨h.1, Lib.hid h.2⟩
  rw [hq]
  clear hq hTA hTB hSA hSB hn hA hB
  obtain ⟨⟨xk, xn, xs, xa, xl, xc⟩, l⟩ := A
  obtain ⟨⟨yk, yn, ys, ya, yl, yc⟩, m⟩ := B
  dsimp only [LT.node, Node.val, wordV] at HC ⊢
  have HO : Hid (Op1 174 11 q 0) := Lib.hid (op_same q 0)
  have HI : Hid (In (ans 11 q 0)) := Lib.hid (by unfold In ans; simp only []; split <;> omega)
  obtain ⟨r, hr⟩ : ∃ r, ans 11 q 0 = r := ⟨_, rfl⟩
  rw [hr] at HI ⊢
  have HR := Lib.hid hr
  clear hr
  have HB := Lib.hid (below3 w #[.int .i64 xk, .int .i64 xn, .string xs, .slice xa xl xc] #[.int .i64 yk, .int .i64 yn, .string ys, .slice ya yl yc] #[.int .i64 0, .int .i64 0, .string ⟨#[]⟩, .slice none 0 0] 44)
  go_enter Tryz.func87, Tryz.ntmps87
  go_wp2
  generalize (((w.alloc (.cells #[.int .i64 xk, .int .i64 xn, .string xs, .slice xa xl xc] 44)).alloc (.cells #[.int .i64 yk, .int .i64 yn, .string ys, .slice ya yl yc] 44)).alloc (.cells #[.int .i64 0, .int .i64 0, .string ⟨#[]⟩, .slice none 0 0] 44)) = W0 at HB ⊢
  obtain ⟨⟨_, a1, _, _⟩, _⟩ := cells4 HB.out.2.1
  obtain ⟨⟨_, b1, _, _⟩, _⟩ := cells4 HB.out.2.2.1
  go_quiet (fail)
  have HN : Hid (Below w.heap.size w (W0.drewN nq) ∧ (W0.drewN nq).heap[w.heap.size + 2]? = some (.cells #[.int .i64 0, .int .i64 0, .string ⟨#[]⟩, .slice none 0 0] 44 (0, 0)) ∧ (W0.drewN nq).heap[w.heap.size]? = some (.cells #[.int .i64 xk, .int .i64 xn, .string xs, .slice xa xl xc] 44 (0, 0)) ∧ (W0.drewN nq).heap[w.heap.size + 1]? = some (.cells #[.int .i64 yk, .int .i64 yn, .string ys, .slice ya yl yc] 44 (0, 0))) := Lib.hid ⟨HB.out.1.trans ⟨rfl, rfl, rfl, Nat.le_refl _, fun _ _ => rfl⟩, HB.out.2.2.2, HB.out.2.1, HB.out.2.2.1⟩
  clear a1 b1 HB
  generalize W0.drewN nq = W1 at HN ⊢
  obtain ⟨⟨a0, a1, a2, a3⟩, _⟩ := cells4 HN.out.2.2.1
  obtain ⟨⟨b0, b1, b2, b3⟩, _⟩ := cells4 HN.out.2.2.2
  have hw64 : wrap64 r = r := by have := HI.out; unfold In at this; unfold wrap64; omega
  have hix := opTab_11
  have hfl := opField
  go_wp2_with (first
    | (go_at_call 85; go_in)
    | (go_at_call 132; refine (HC.out _ HN.out.1).mono ?_; rintro e W5 ⟨rfl, H5⟩; have HN5 := Lib.hid (And.intro (HN.out.1.trans (H5.out.mono HN.out.1.size)) ((H5.out.block _ (Array.getElem?_eq_some_iff.1 HN.out.2.1).1).trans HN.out.2.1)); have HW := Lib.hid (wordOps_any W5))
    | (go_at_call 133; refine HW.out.mono ?_; rintro e W2 ⟨rfl, H2⟩)
    | (go_at_call 174; refine (HO.out _).mono ?_; rintro e W3 ⟨z, rfl, hz, rfl⟩; rw [HR.out] at hz; obtain ⟨⟨c0, c1, c2, c3⟩, ⟨d0, d1, d2, d3⟩⟩ := cells4 ((H2.block _ (Array.getElem?_eq_some_iff.1 HN5.out.2).1).trans HN5.out.2))
    | (go_at_call 134; refine (wordOf_any _ _).mono ?_; rintro e W4 ⟨rfl, H4⟩; have HW2 := Lib.hid (HN5.out.1.trans (H2.mono HN5.out.1.size)); have HW4 := Lib.hid (HW2.out.trans (H4.mono HW2.out.size)); obtain ⟨⟨e0, e1, e2, e3⟩, ⟨g0, g1, g2, g3⟩⟩ := cells4 ((H4.block _ (Array.getElem?_eq_some_iff.1 ((H2.block _ (Array.getElem?_eq_some_iff.1 HN5.out.2).1).trans HN5.out.2)).1).trans ((H2.block _ (Array.getElem?_eq_some_iff.1 HN5.out.2).1).trans HN5.out.2)); unfold wordV))
  refine ⟨rfl, .agg #[.int .i64 0, .int .i64 r, .string ⟨#[]⟩, .slice none 0 0], ?_, rfl, ?_⟩
  · simp [results, Tryz.f87, go_sem, e0, e1, e2, e3]
  · exact (((HW4.out.setCell (by simp; omega) _).setCell (by simp; omega) _).setCell (by simp; omega) _).setCell (by simp; omega) _
end Go.Proofs.YtlbnfokedkpccaaGreat
