/- Bin, of any two values. -/
import Derived.Test.YtlbnfokedkpccaaGreatCalk
import Derived.WalkLawsBesides
set_option linter.all false
namespace Go.Proofs.YtlbnfokedkpccaaGreat
open Go.RowKit Go.Shelf
attribute [local go_sem] Oper.semAt_some

set_option maxRecDepth 100000 in
set_option maxHeartbeats 4000000 in
theorem Bin1_type (o : Int) (h0 : 0 ≤ o) (h9 : o < 10) (A B : LT) (hA : validF A = true) (hB : validF B = true) (hSA : Sized A) (hSB : Sized B) (hk : A.node.k = 0 → ¬ B.node.k = 0) (n₀ : Nat) (p q r : Nat) (w : World) (hTA : IsT n₀ w A) (hTB : IsT n₀ w B) (hn : n₀ ≤ w.heap.size)
    (hp : w.heap[p]? = some (.cells #[.int .i64 o] 3 (0, 0))) (hq : w.heap[q]? = some (.cells #[.int .i64 A.node.k, .int .i64 A.node.n, .string A.node.s, .slice A.node.a A.node.len A.node.cap] 44 (0, 0))) (hr : w.heap[r]? = some (.cells #[.int .i64 B.node.k, .int .i64 B.node.n, .string B.node.s, .slice B.node.a B.node.len B.node.cap] 44 (0, 0))) :
    Calls Tryz.prog 82 #[.pointer (some ⟨p, 0, none⟩), .pointer (some ⟨q, 0, none⟩), .pointer (some ⟨r, 0, none⟩)] w fun e w' => e = .panicked [refusal 7] ∧ Below w.heap.size w w' := by
  have iv : ∀ V : LT, validF V = true → Sized V → IsT n₀ w V → ∀ W, Below w.heap.size w W → Calls Tryz.prog 84 #[V.node.val] W fun e w' => e = .returned (.bool true) ∧ Hid (Below W.heap.size W w') := by
    intro V hV hS hT W hW
    have h := isValue_any V hS n₀ W (hT.bel (hW.mono hn)) (by have := hW.size; omega)
    rw [hV] at h
    exact h.mono fun e w' h => ⟨h.1, Lib.hid h.2⟩
  have HA := Lib.hid (iv A hA hSA hTA)
  have HB := Lib.hid (iv B hB hSB hTB)
  have iw : ∀ (k n : Int) (s : ByteArray) (a : Option Addr) (l c : Nat) (b : Bool), (b = true ↔ k = 0) → ∀ W, Calls Tryz.prog 86 #[.agg #[.int .i64 k, .int .i64 n, .string s, .slice a l c]] W fun e w' => e = .returned (.bool b) ∧ Hid (Below W.heap.size W w') := fun k n s a l c b hb W => by
    have h := isWord_any ⟨k, n, s, a, l, c⟩ W
    dsimp only [Node.val] at h
    refine h.mono fun e w' h => ⟨?_, Lib.hid h.2⟩
    rw [h.1]
    cases b <;> simp_all
  have HI := Lib.hid iw
  have F0 : Hid (Fr w (w.alloc (.cells #[.int .i64 0, .int .i64 0, .string ⟨#[]⟩, .slice none 0 0] 44)) p q r o A.node B.node) := Lib.hid ⟨(Below.refl _ _).alloc (Nat.le_refl _) _, blk ((Below.refl _ _).alloc (Nat.le_refl _) _) hp, blk ((Below.refl _ _).alloc (Nat.le_refl _) _) hq, blk ((Below.refl _ _).alloc (Nat.le_refl _) _) hr, World.alloc_heap_new w _⟩
  clear iv iw hA hB hSA hSB hTA hTB hn hp hq hr
  obtain ⟨⟨xk, xn, xs, xa, xl, xc⟩, l⟩ := A
  obtain ⟨⟨yk, yn, ys, ya, yl, yc⟩, m⟩ := B
  dsimp only [LT.node, Node.val] at HA HB HI F0 hk
  have ho1 : (o == 10) = false := by simp <;> omega
  have ho2 : (o == 11) = false := by simp <;> omega
  have ho3 : o < 12 := by omega
  have c0 := (cells1 F0.out.hp).1
  obtain ⟨⟨q0, q1, q2, q3⟩, _⟩ := cells4 F0.out.hq
  by_cases hx : xk = 0
  · have HY0 := Lib.hid (hk hx)
    have HX0 := Lib.hid hx
    clear hk hx
    go_enter Tryz.func82, Tryz.ntmps82
    go_wp2_with (first
      | (go_at_call 83; go_in)
      | (go_at_call_of 84 (Value.agg #[.int .i64 xk, .int .i64 xn, .string xs, .slice xa xl xc]); refine (HA.out _ F0.out.bel).mono ?_; rintro e W1 ⟨rfl, H1⟩; have F1 := Lib.hid (F0.out.on' H1); obtain ⟨⟨r0, r1, r2, r3⟩, _⟩ := cells4 F1.out.hr)
      | (go_at_call_of 84 (Value.agg #[.int .i64 yk, .int .i64 yn, .string ys, .slice ya yl yc]); refine (HB.out _ F1.out.bel).mono ?_; rintro e W2 ⟨rfl, H2⟩; have F2 := Lib.hid (F1.out.on' H2); have c2 := (cells1 F2.out.hp).1; obtain ⟨⟨u0, u1, u2, u3⟩, _⟩ := cells4 F2.out.hq)
      | (go_at_call_of 75 (Value.bool true); refine (Unless_ok _ _).mono ?_; rintro e w' ⟨rfl, rfl⟩)
      | (go_at_call_of 75 (Value.bool false); refine (Unless_no _ _).mono ?_; rintro e w' ⟨rfl, rfl⟩)
      | (go_at_call 85; go_in)
      | (go_at_call_of 86 (Value.agg #[.int .i64 xk, .int .i64 xn, .string xs, .slice xa xl xc]); refine (HI.out _ _ _ _ _ _ true (by simp [HX0.out]) _).mono ?_; rintro e W3 ⟨rfl, H3⟩; have F3 := Lib.hid (F2.out.on' H3); obtain ⟨⟨v0, v1, v2, v3⟩, _⟩ := cells4 F3.out.hr)
      | (go_at_call_of 86 (Value.agg #[.int .i64 yk, .int .i64 yn, .string ys, .slice ya yl yc]); refine (HI.out _ _ _ _ _ _ false (by simp [HY0.out]) _).mono ?_; rintro e W4 ⟨rfl, H4⟩; have F4 := Lib.hid (F3.out.on' H4); have c4 := (cells1 F4.out.hp).1; obtain ⟨⟨s0, s1, s2, s3⟩, _⟩ := cells4 F4.out.hq; obtain ⟨⟨t0, t1, t2, t3⟩, _⟩ := cells4 F4.out.hr))
    exact ⟨rfl, rfl, F4.out.bel⟩
  · clear hk
    have HX0 := Lib.hid hx
    clear hx
    go_enter Tryz.func82, Tryz.ntmps82
    go_wp2_with (first
      | (go_at_call 83; go_in)
      | (go_at_call_of 84 (Value.agg #[.int .i64 xk, .int .i64 xn, .string xs, .slice xa xl xc]); refine (HA.out _ F0.out.bel).mono ?_; rintro e W1 ⟨rfl, H1⟩; have F1 := Lib.hid (F0.out.on' H1); obtain ⟨⟨r0, r1, r2, r3⟩, _⟩ := cells4 F1.out.hr)
      | (go_at_call_of 84 (Value.agg #[.int .i64 yk, .int .i64 yn, .string ys, .slice ya yl yc]); refine (HB.out _ F1.out.bel).mono ?_; rintro e W2 ⟨rfl, H2⟩; have F2 := Lib.hid (F1.out.on' H2); have c2 := (cells1 F2.out.hp).1; obtain ⟨⟨u0, u1, u2, u3⟩, _⟩ := cells4 F2.out.hq)
      | (go_at_call_of 75 (Value.bool true); refine (Unless_ok _ _).mono ?_; rintro e w' ⟨rfl, rfl⟩)
      | (go_at_call_of 75 (Value.bool false); refine (Unless_no _ _).mono ?_; rintro e w' ⟨rfl, rfl⟩)
      | (go_at_call 85; go_in)
      | (go_at_call_of 86 (Value.agg #[.int .i64 xk, .int .i64 xn, .string xs, .slice xa xl xc]); refine (HI.out _ _ _ _ _ _ false (by simp [HX0.out]) _).mono ?_; rintro e W3 ⟨rfl, H3⟩; have F3 := Lib.hid (F2.out.on' H3); obtain ⟨⟨v0, v1, v2, v3⟩, _⟩ := cells4 F3.out.hr)
      | (go_at_call_of 86 (Value.agg #[.int .i64 yk, .int .i64 yn, .string ys, .slice ya yl yc]); refine (HI.out _ _ _ _ _ _ false (by simp) _).mono ?_; rintro e W4 ⟨rfl, H4⟩; have F4 := Lib.hid (F3.out.on' H4); have c4 := (cells1 F4.out.hp).1; obtain ⟨⟨s0, s1, s2, s3⟩, _⟩ := cells4 F4.out.hq; obtain ⟨⟨t0, t1, t2, t3⟩, _⟩ := cells4 F4.out.hr))
    exact ⟨rfl, rfl, F3.out.bel⟩
set_option maxRecDepth 100000 in
set_option maxHeartbeats 2000000 in
theorem Bin_no (o : Int) (A B : LT) (z : Int) (w : World)
    (h : ∀ W, Below w.heap.size w W → ∀ p q r : Nat, W.heap[p]? = some (.cells #[.int .i64 o] 3 (0, 0)) → W.heap[q]? = some (.cells #[.int .i64 A.node.k, .int .i64 A.node.n, .string A.node.s, .slice A.node.a A.node.len A.node.cap] 44 (0, 0)) → W.heap[r]? = some (.cells #[.int .i64 B.node.k, .int .i64 B.node.n, .string B.node.s, .slice B.node.a B.node.len B.node.cap] 44 (0, 0)) →
      Calls Tryz.prog 82 #[.pointer (some ⟨p, 0, none⟩), .pointer (some ⟨q, 0, none⟩), .pointer (some ⟨r, 0, none⟩)] W fun e w' => e = .panicked [refusal z] ∧ Below W.heap.size W w') :
    Calls Tryz.prog 26 #[.int .i64 o, A.node.val, B.node.val] w fun e w' => e = .returned (.tuple #[wordV 0, .int .i64 z]) ∧ Below w.heap.size w w' := by
  have hmf : ∀ (fn : Fn) (first cap : Array Value) (w : World), (Instr.makeFunc fn first cap).run Tryz.prog w = .ok (.func fn first cap) w := fun _ _ _ _ => rfl
  obtain ⟨⟨xk, xn, xs, xa, xl, xc⟩, l⟩ := A
  obtain ⟨⟨yk, yn, ys, ya, yl, yc⟩, m⟩ := B
  dsimp only [LT.node, Node.val] at h ⊢
  have HW4 := Lib.hid (box4 w #[.int .i64 o] #[.int .i64 xk, .int .i64 xn, .string xs, .slice xa xl xc] #[.int .i64 yk, .int .i64 yn, .string ys, .slice ya yl yc] #[.int .i64 0, .int .i64 0, .string ⟨#[]⟩, .slice none 0 0] 3 44)
  have HH := Lib.hid h
  clear h
  go_enter Tryz.func26, Tryz.ntmps26
  go_wp2_with (go_at_call 73; refine (Attempt_refused _ z _ (fun W hW => ((HH.out W (HW4.out.1.trans (hW.mono HW4.out.1.size)) _ _ _ (blk hW HW4.out.2.1) (blk hW HW4.out.2.2.1) (blk hW HW4.out.2.2.2.1)).mono (fun e w' h => ⟨h.1, Lib.hid h.2⟩)))).mono ?_; rintro e W5 ⟨rfl, H5⟩; unfold wordV; have HB5 := Lib.hid (HW4.out.1.trans (H5.mono HW4.out.1.size)); obtain ⟨⟨e0, e1, e2, e3⟩, ⟨g0, g1, g2, g3⟩⟩ := cells4 (blk H5 HW4.out.2.2.2.2))
  refine ⟨rfl, .tuple #[wordV 0, .int .i64 z], ?_, rfl, ?_⟩
  · simp [results, Tryz.f26, go_sem, wordV, e0, e1, e2, e3]
  · exact (((HB5.out.setCell (by simp <;> omega) _).setCell (by simp <;> omega) _).setCell (by simp <;> omega) _).setCell (by simp <;> omega) _

/-- What Bin answers, of any two values: the word, and the error. -/
def binN (o : Int) (A B : LT) : Int := if o < 0 ∨ 12 ≤ o ∨ validF A = false ∨ validF B = false then 0 else if o < 10 ∧ (A.node.k = 0 → ¬ B.node.k = 0) then 0 else binF o.toNat A B
def binE (o : Int) (A B : LT) : Int := if o < 0 ∨ 12 ≤ o ∨ validF A = false ∨ validF B = false then 1 else if o < 10 ∧ (A.node.k = 0 → ¬ B.node.k = 0) then 7 else 0
theorem Bin_all (o : Int) (A B : LT) (hSA : Sized A) (hSB : Sized B) (n₀ : Nat) (w : World) (hTA : IsT n₀ w A) (hTB : IsT n₀ w B) (hn : n₀ ≤ w.heap.size) :
    Calls Tryz.prog 26 #[.int .i64 o, A.node.val, B.node.val] w fun e w' => e = .returned (.tuple #[wordV (binN o A B), .int .i64 (binE o A B)]) ∧ Below w.heap.size w w' := by
  by_cases h : o < 0 ∨ 12 ≤ o ∨ validF A = false ∨ validF B = false
  · unfold binN binE
    rw [if_pos h, if_pos h]
    refine Bin_no o A B 1 w fun W hW p q r hp hq hr => ?_
    by_cases ho : o < 0 ∨ 12 ≤ o
    · exact Bin1_op o ho A.node B.node p q r W hp hq hr
    · exact Bin1_arg o (by omega) (by omega) A B ((h.resolve_left (fun e => ho (.inl e))).resolve_left (fun e => ho (.inr e))) hSA hSB n₀ p q r W (hTA.bel (hW.mono hn)) (hTB.bel (hW.mono hn)) (by have := hW.size; omega) hp hq hr
  · have hA : validF A = true := by cases hv : validF A <;> simp_all
    have hB : validF B = true := by cases hv : validF B <;> simp_all
    obtain ⟨op, rfl⟩ : ∃ op : Nat, o = op := ⟨o.toNat, by omega⟩
    unfold binN binE
    rw [if_neg h, if_neg h]
    by_cases hk : (op : Int) < 10 ∧ (A.node.k = 0 → ¬ B.node.k = 0)
    · rw [if_pos hk, if_pos hk]
      refine Bin_no op A B 7 w fun W hW p q r hp hq hr => ?_
      exact Bin1_type op (by omega) hk.1 A B hA hB hSA hSB hk.2 n₀ p q r W (hTA.bel (hW.mono hn)) (hTB.bel (hW.mono hn)) (by have := hW.size; omega) hp hq hr
    · rw [if_neg hk, if_neg hk]
      refine Bin_ok op (by omega) A B hA hB hSA hSB (fun h10 => ?_) n₀ w hTA hTB hn
      have h1 : ¬ (A.node.k = 0 → ¬ B.node.k = 0) := fun h => hk ⟨by omega, h⟩
      exact ⟨Classical.byContradiction fun h => h1 (fun h' => absurd h' h), Classical.byContradiction fun h => h1 (fun _ => h)⟩
end Go.Proofs.YtlbnfokedkpccaaGreat
