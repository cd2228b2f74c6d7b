/- Bin, of values that it takes: the closure that does it, and Bin itself. -/
import Derived.Test.YtlbnfokedkpccaaGreatCalf
set_option linter.all false
namespace Go.Proofs.YtlbnfokedkpccaaGreat
open Go.RowKit Go.Shelf
attribute [local go_sem] Oper.semAt_some

/-- A world in which the closure's variables stand. -/
structure Fr (w W : World) (p q r : Nat) (o : Int) (x y : Node) : Prop where
  bel : Below w.heap.size w W
  hp : W.heap[p]? = some (.cells #[.int .i64 o] 3 (0, 0))
  hq : W.heap[q]? = some (.cells #[.int .i64 x.k, .int .i64 x.n, .string x.s, .slice x.a x.len x.cap] 44 (0, 0))
  hr : W.heap[r]? = some (.cells #[.int .i64 y.k, .int .i64 y.n, .string y.s, .slice y.a y.len y.cap] 44 (0, 0))
  ht : W.heap[w.heap.size]? = some (.cells #[.int .i64 0, .int .i64 0, .string ⟨#[]⟩, .slice none 0 0] 44 (0, 0))
theorem blk {W W' : World} {b : Nat} {o : Obj} (hb : Below W.heap.size W W') (h : W.heap[b]? = some o) : W'.heap[b]? = some o := (hb.block _ (Array.getElem?_eq_some_iff.1 h).1).trans h
theorem Fr.on {w W W' : World} {p q r : Nat} {o : Int} {x y : Node} (h : Fr w W p q r o x y) (hb : Below W.heap.size W W') : Fr w W' p q r o x y :=
  ⟨h.bel.trans (hb.mono h.bel.size), blk hb h.hp, blk hb h.hq, blk hb h.hr, blk hb h.ht⟩
theorem Fr.on' {w W W' : World} {p q r : Nat} {o : Int} {x y : Node} (h : Fr w W p q r o x y) (hb : Hid (Below W.heap.size W W')) : Fr w W' p q r o x y := h.on hb.out

set_option maxRecDepth 100000 in
set_option maxHeartbeats 4000000 in
theorem Bin1_words (o : Int) (h0 : 0 ≤ o) (h9 : o < 10) (A B : LT) (hA : validF A = true) (hB : validF B = true) (hSA : Sized A) (hSB : Sized B) (hkA : A.node.k = 0) (hkB : B.node.k = 0) (z : Int) (n₀ : Nat) (p q r : Nat) (w : World) (hTA : IsT n₀ w A) (hTB : IsT n₀ w B) (hn : n₀ ≤ w.heap.size)
    (hp : w.heap[p]? = some (.cells #[.int .i64 o] 3 (0, 0))) (hq : w.heap[q]? = some (.cells #[.int .i64 A.node.k, .int .i64 A.node.n, .string A.node.s, .slice A.node.a A.node.len A.node.cap] 44 (0, 0))) (hr : w.heap[r]? = some (.cells #[.int .i64 B.node.k, .int .i64 B.node.n, .string B.node.s, .slice B.node.a B.node.len B.node.cap] 44 (0, 0)))
    (hd : ∀ W, Below w.heap.size w W → Calls Tryz.prog 87 #[.int .i64 o, A.node.val, B.node.val] W fun e w' => e = .returned (wordV z) ∧ Below W.heap.size W w') :
    Calls Tryz.prog 82 #[.pointer (some ⟨p, 0, none⟩), .pointer (some ⟨q, 0, none⟩), .pointer (some ⟨r, 0, none⟩)] w fun e w' => e = .returned (wordV z) ∧ Below w.heap.size w w' := by
  have iv : ∀ V : LT, validF V = true → Sized V → IsT n₀ w V → ∀ W, Below w.heap.size w W → Calls Tryz.prog 84 #[V.node.val] W fun e w' => e = .returned (.bool true) ∧ Hid (Below W.heap.size W w') := by
    intro V hV hS hT W hW
    have h := isValue_any V hS n₀ W (hT.bel (hW.mono hn)) (by have := hW.size; omega)
    rw [hV] at h
    exact h.mono fun e w' h => ⟨h.1, Lib.hid h.2⟩
  have HA := Lib.hid (iv A hA hSA hTA)
  have HB := Lib.hid (iv B hB hSB hTB)
  have HD := Lib.hid hd
  have iw : ∀ (x : Node), x.k = 0 → ∀ W, Calls Tryz.prog 86 #[x.val] W fun e w' => e = .returned (.bool true) ∧ Hid (Below W.heap.size W w') := fun x hx W => by
    have h := isWord_any x W
    rw [show decide (x.k = 0) = true by simpa using hx] at h
    exact h.mono fun e w' h => ⟨h.1, Lib.hid h.2⟩
  have HI := Lib.hid (And.intro (iw A.node hkA) (iw B.node hkB))
  have F0 : Hid (Fr w (w.alloc (.cells #[.int .i64 0, .int .i64 0, .string ⟨#[]⟩, .slice none 0 0] 44)) p q r o A.node B.node) := Lib.hid ⟨(Below.refl _ _).alloc (Nat.le_refl _) _, blk ((Below.refl _ _).alloc (Nat.le_refl _) _) hp, blk ((Below.refl _ _).alloc (Nat.le_refl _) _) hq, blk ((Below.refl _ _).alloc (Nat.le_refl _) _) hr, World.alloc_heap_new w _⟩
  clear iv iw hd hA hB hSA hSB hTA hTB hn hp hq hr hkA hkB
  obtain ⟨⟨xk, xn, xs, xa, xl, xc⟩, l⟩ := A
  obtain ⟨⟨yk, yn, ys, ya, yl, yc⟩, m⟩ := B
  dsimp only [LT.node, Node.val] at HA HB HD HI F0
  have ho1 : (o == 10) = false := by simp <;> omega
  have ho2 : (o == 11) = false := by simp <;> omega
  have ho3 : o < 12 := by omega
  have c0 := (cells1 F0.out.hp).1
  obtain ⟨⟨q0, q1, q2, q3⟩, _⟩ := cells4 F0.out.hq
  go_enter Tryz.func82, Tryz.ntmps82
  go_wp2_with (first
    | (go_at_call 83; go_in)
    | (go_at_call_of 84 (Value.agg #[.int .i64 xk, .int .i64 xn, .string xs, .slice xa xl xc]); refine (HA.out _ F0.out.bel).mono ?_; rintro e W1 ⟨rfl, H1⟩; have F1 := Lib.hid (F0.out.on' H1); obtain ⟨⟨r0, r1, r2, r3⟩, _⟩ := cells4 F1.out.hr)
    | (go_at_call_of 84 (Value.agg #[.int .i64 yk, .int .i64 yn, .string ys, .slice ya yl yc]); refine (HB.out _ F1.out.bel).mono ?_; rintro e W2 ⟨rfl, H2⟩; have F2 := Lib.hid (F1.out.on' H2); have c2 := (cells1 F2.out.hp).1; obtain ⟨⟨u0, u1, u2, u3⟩, _⟩ := cells4 F2.out.hq)
    | (go_at_call 75; refine (Unless_ok _ _).mono ?_; rintro e w' ⟨rfl, rfl⟩)
    | (go_at_call 85; go_in)
    | (go_at_call_of 86 (Value.agg #[.int .i64 xk, .int .i64 xn, .string xs, .slice xa xl xc]); refine (HI.out.1 _).mono ?_; rintro e W3 ⟨rfl, H3⟩; have F3 := Lib.hid (F2.out.on' H3); obtain ⟨⟨v0, v1, v2, v3⟩, _⟩ := cells4 F3.out.hr)
    | (go_at_call_of 86 (Value.agg #[.int .i64 yk, .int .i64 yn, .string ys, .slice ya yl yc]); refine (HI.out.2 _).mono ?_; rintro e W4 ⟨rfl, H4⟩; have F4 := Lib.hid (F3.out.on' H4); have c4 := (cells1 F4.out.hp).1; obtain ⟨⟨s0, s1, s2, s3⟩, _⟩ := cells4 F4.out.hq; obtain ⟨⟨t0, t1, t2, t3⟩, _⟩ := cells4 F4.out.hr)
    | (go_at_call 87; refine (HD.out _ F4.out.bel).mono ?_; rintro e W5 ⟨rfl, H5⟩; have F5 := Lib.hid (F4.out.on H5); obtain ⟨⟨e0, e1, e2, e3⟩, ⟨g0, g1, g2, g3⟩⟩ := cells4 F5.out.ht; unfold wordV))
  refine ⟨rfl, wordV z, ?_, rfl, ?_⟩
  · simp [results, Tryz.f82, go_sem, wordV, e0, e1, e2, e3]
  · exact (((F5.out.bel.setCell (Nat.le_refl _) _).setCell (Nat.le_refl _) _).setCell (Nat.le_refl _) _).setCell (Nat.le_refl _) _
set_option maxRecDepth 100000 in
set_option maxHeartbeats 4000000 in
theorem Bin1_cmps (o : Int) (ho : o = 10 ∨ o = 11) (A B : LT) (hA : validF A = true) (hB : validF B = true) (hSA : Sized A) (hSB : Sized B) (z : Int) (n₀ : Nat) (p q r : Nat) (w : World) (hTA : IsT n₀ w A) (hTB : IsT n₀ w B) (hn : n₀ ≤ w.heap.size)
    (hp : w.heap[p]? = some (.cells #[.int .i64 o] 3 (0, 0))) (hq : w.heap[q]? = some (.cells #[.int .i64 A.node.k, .int .i64 A.node.n, .string A.node.s, .slice A.node.a A.node.len A.node.cap] 44 (0, 0))) (hr : w.heap[r]? = some (.cells #[.int .i64 B.node.k, .int .i64 B.node.n, .string B.node.s, .slice B.node.a B.node.len B.node.cap] 44 (0, 0)))
    (hd : ∀ W, Below w.heap.size w W → Calls Tryz.prog 87 #[.int .i64 o, A.node.val, B.node.val] W fun e w' => e = .returned (wordV z) ∧ Below W.heap.size W w') :
    Calls Tryz.prog 82 #[.pointer (some ⟨p, 0, none⟩), .pointer (some ⟨q, 0, none⟩), .pointer (some ⟨r, 0, none⟩)] w fun e w' => e = .returned (wordV z) ∧ Below w.heap.size w w' := by
  have iv : ∀ V : LT, validF V = true → Sized V → IsT n₀ w V → ∀ W, Below w.heap.size w W → Calls Tryz.prog 84 #[V.node.val] W fun e w' => e = .returned (.bool true) ∧ Hid (Below W.heap.size W w') := by
    intro V hV hS hT W hW
    have h := isValue_any V hS n₀ W (hT.bel (hW.mono hn)) (by have := hW.size; omega)
    rw [hV] at h
    exact h.mono fun e w' h => ⟨h.1, Lib.hid h.2⟩
  have HA := Lib.hid (iv A hA hSA hTA)
  have HB := Lib.hid (iv B hB hSB hTB)
  have HD := Lib.hid hd
  have F0 : Hid (Fr w (w.alloc (.cells #[.int .i64 0, .int .i64 0, .string ⟨#[]⟩, .slice none 0 0] 44)) p q r o A.node B.node) := Lib.hid ⟨(Below.refl _ _).alloc (Nat.le_refl _) _, blk ((Below.refl _ _).alloc (Nat.le_refl _) _) hp, blk ((Below.refl _ _).alloc (Nat.le_refl _) _) hq, blk ((Below.refl _ _).alloc (Nat.le_refl _) _) hr, World.alloc_heap_new w _⟩
  clear iv hd hA hB hSA hSB hTA hTB hn hp hq hr
  obtain ⟨⟨xk, xn, xs, xa, xl, xc⟩, l⟩ := A
  obtain ⟨⟨yk, yn, ys, ya, yl, yc⟩, m⟩ := B
  dsimp only [LT.node, Node.val] at HA HB HD F0
  have h0 : (0 : Int) ≤ o := by omega
  have ho3 : o < 12 := by omega
  have c0 := (cells1 F0.out.hp).1
  obtain ⟨⟨q0, q1, q2, q3⟩, _⟩ := cells4 F0.out.hq
  rcases ho with rfl | rfl
  all_goals
    go_enter Tryz.func82, Tryz.ntmps82
    go_wp2_with (first
      | (go_at_call 83; go_in)
      | (go_at_call_of 84 (Value.agg #[.int .i64 xk, .int .i64 xn, .string xs, .slice xa xl xc]); refine (HA.out _ F0.out.bel).mono ?_; rintro e W1 ⟨rfl, H1⟩; have F1 := Lib.hid (F0.out.on' H1); obtain ⟨⟨r0, r1, r2, r3⟩, _⟩ := cells4 F1.out.hr)
      | (go_at_call_of 84 (Value.agg #[.int .i64 yk, .int .i64 yn, .string ys, .slice ya yl yc]); refine (HB.out _ F1.out.bel).mono ?_; rintro e W2 ⟨rfl, H2⟩; have F2 := Lib.hid (F1.out.on' H2); have c2 := (cells1 F2.out.hp).1; obtain ⟨⟨u0, u1, u2, u3⟩, _⟩ := cells4 F2.out.hq; obtain ⟨⟨t0, t1, t2, t3⟩, _⟩ := cells4 F2.out.hr)
      | (go_at_call 75; refine (Unless_ok _ _).mono ?_; rintro e w' ⟨rfl, rfl⟩)
      | (go_at_call 85; go_in)
      | (go_at_call 87; refine (HD.out _ F2.out.bel).mono ?_; rintro e W5 ⟨rfl, H5⟩; have F5 := Lib.hid (F2.out.on H5); obtain ⟨⟨e0, e1, e2, e3⟩, ⟨g0, g1, g2, g3⟩⟩ := cells4 F5.out.ht; unfold wordV))
    refine ⟨rfl, wordV z, ?_, rfl, ?_⟩
    · simp [results, Tryz.f82, go_sem, wordV, e0, e1, e2, e3]
    · exact (((F5.out.bel.setCell (Nat.le_refl _) _).setCell (Nat.le_refl _) _).setCell (Nat.le_refl _) _).setCell (Nat.le_refl _) _

theorem box4 (w : World) (a b c d : Array Value) (t u : TypeId) :
    Below w.heap.size w ((((w.alloc (.cells a t)).alloc (.cells b u)).alloc (.cells c u)).alloc (.cells d u)) ∧ ((((w.alloc (.cells a t)).alloc (.cells b u)).alloc (.cells c u)).alloc (.cells d u)).heap[w.heap.size]? = some (.cells a t (0, 0)) ∧ ((((w.alloc (.cells a t)).alloc (.cells b u)).alloc (.cells c u)).alloc (.cells d u)).heap[w.heap.size + 1]? = some (.cells b u (0, 0)) ∧ ((((w.alloc (.cells a t)).alloc (.cells b u)).alloc (.cells c u)).alloc (.cells d u)).heap[w.heap.size + 1 + 1]? = some (.cells c u (0, 0)) ∧ ((((w.alloc (.cells a t)).alloc (.cells b u)).alloc (.cells c u)).alloc (.cells d u)).heap[w.heap.size + 1 + 1 + 1]? = some (.cells d u (0, 0)) := by
  have h := box2' w a b t u
  refine ⟨((((Below.refl _ _).alloc (Nat.le_refl _) _).alloc (by simp) _).alloc (by simp <;> omega) _).alloc (by simp <;> omega) _, ?_, ?_, ?_, ?_⟩
  · exact (Below.heap_alloc _ _ _ (by simp <;> omega)).trans ((Below.heap_alloc _ _ _ (by simp <;> omega)).trans h.1)
  · exact (Below.heap_alloc _ _ _ (by simp <;> omega)).trans ((Below.heap_alloc _ _ _ (by simp)).trans h.2)
  · refine (Below.heap_alloc _ _ _ (by simp)).trans ?_
    have := World.alloc_heap_new ((w.alloc (.cells a t)).alloc (.cells b u)) (.cells c u)
    simpa using this
  · have := World.alloc_heap_new (((w.alloc (.cells a t)).alloc (.cells b u)).alloc (.cells c u)) (.cells d u)
    simpa using this
set_option maxRecDepth 100000 in
set_option maxHeartbeats 2000000 in
theorem Bin_by (o : Int) (A B : LT) (z : Int) (w : World)
    (h : ∀ W, Below w.heap.size w W → ∀ p q r : Nat, W.heap[p]? = some (.cells #[.int .i64 o] 3 (0, 0)) → W.heap[q]? = some (.cells #[.int .i64 A.node.k, .int .i64 A.node.n, .string A.node.s, .slice A.node.a A.node.len A.node.cap] 44 (0, 0)) → W.heap[r]? = some (.cells #[.int .i64 B.node.k, .int .i64 B.node.n, .string B.node.s, .slice B.node.a B.node.len B.node.cap] 44 (0, 0)) →
      Calls Tryz.prog 82 #[.pointer (some ⟨p, 0, none⟩), .pointer (some ⟨q, 0, none⟩), .pointer (some ⟨r, 0, none⟩)] W fun e w' => e = .returned (wordV z) ∧ Below W.heap.size W w') :
    Calls Tryz.prog 26 #[.int .i64 o, A.node.val, B.node.val] w fun e w' => e = .returned (.tuple #[wordV z, .int .i64 0]) ∧ Below w.heap.size w w' := by
  have hmf : ∀ (fn : Fn) (first cap : Array Value) (w : World), (Instr.makeFunc fn first cap).run Tryz.prog w = .ok (.func fn first cap) w := fun _ _ _ _ => rfl
  obtain ⟨⟨xk, xn, xs, xa, xl, xc⟩, l⟩ := A
  obtain ⟨⟨yk, yn, ys, ya, yl, yc⟩, m⟩ := B
  dsimp only [LT.node, Node.val] at h ⊢
  have HW4 := Lib.hid (box4 w #[.int .i64 o] #[.int .i64 xk, .int .i64 xn, .string xs, .slice xa xl xc] #[.int .i64 yk, .int .i64 yn, .string ys, .slice ya yl yc] #[.int .i64 0, .int .i64 0, .string ⟨#[]⟩, .slice none 0 0] 3 44)
  have HH := Lib.hid h
  clear h
  go_enter Tryz.func26, Tryz.ntmps26
  go_wp2_with (go_at_call 73; refine (Attempt_ok _ 0 z ⟨#[]⟩ none 0 0 _ (fun W hW => ((HH.out W (HW4.out.1.trans (hW.mono HW4.out.1.size)) _ _ _ (blk hW HW4.out.2.1) (blk hW HW4.out.2.2.1) (blk hW HW4.out.2.2.2.1)).mono (fun e w' h => ⟨h.1, Lib.hid h.2⟩)))).mono ?_; rintro e W5 ⟨rfl, H5⟩; have HB5 := Lib.hid (HW4.out.1.trans (H5.mono HW4.out.1.size)); obtain ⟨⟨e0, e1, e2, e3⟩, ⟨g0, g1, g2, g3⟩⟩ := cells4 (blk H5 HW4.out.2.2.2.2))
  refine ⟨rfl, .tuple #[wordV z, .int .i64 0], ?_, rfl, ?_⟩
  · simp [results, Tryz.f26, go_sem, wordV, e0, e1, e2, e3]
  · exact (((HB5.out.setCell (by simp <;> omega) _).setCell (by simp <;> omega) _).setCell (by simp <;> omega) _).setCell (by simp <;> omega) _
end Go.Proofs.YtlbnfokedkpccaaGreat
