/- Do and Bin, as the reference of this layer says them. -/
import Derived.Test.YtlbnfokedkpccaaGreatCalo
set_option linter.all false
namespace Go.Proofs.YtlbnfokedkpccaaGreat
open Go.RowKit Go.Shelf
attribute [local go_sem] Oper.semAt_some

set_option maxRecDepth 100000 in
set_option maxHeartbeats 2000000 in
theorem Do_words (op : Nat) (hop : op < 10) (x y : Node) (hx : In x.n) (hy : In y.n) (w : World) :
    Calls Tryz.prog 89 #[.int .i64 op, x.val, y.val] w fun e w' => e = .returned (wordV (ans op x.n y.n)) ∧ Below w.heap.size w w' := by
  have HB := Lib.hid (below3 w #[.int .i64 x.k, .int .i64 x.n, .string x.s, .slice x.a x.len x.cap] #[.int .i64 y.k, .int .i64 y.n, .string y.s, .slice y.a y.len y.cap] #[.int .i64 0, .int .i64 0, .string ⟨#[]⟩, .slice none 0 0] 44)
  obtain ⟨xk, xn, xs, xa, xl, xc⟩ := x
  obtain ⟨yk, yn, ys, ya, yl, yc⟩ := y
  dsimp only [Node.val] at hx hy HB ⊢
  have HW := Lib.hid (Words_all op hop xn yn hx hy)
  obtain ⟨r, hr⟩ : ∃ r, ans op xn yn = r := ⟨_, rfl⟩
  rw [hr] at HW ⊢
  clear hr hx hy
  have h10 : ((op : Int) == 10) = false := by simp; omega
  have h11 : ((op : Int) == 11) = false := by simp; omega
  clear hop
  go_enter Tryz.func89, Tryz.ntmps89
  go_wp2_with (first
    | (go_at_call 136; refine (HW.out _).mono ?_; rintro e w' ⟨rfl, rfl⟩)
    | (go_at_call 55; refine (RInt_any _ _).mono ?_; rintro e W1 ⟨rfl, H1⟩; obtain ⟨⟨c0, c1, c2, c3⟩, ⟨d0, d1, d2, d3⟩⟩ := cells4 (blk H1 HB.out.2.2.2); unfold wordV))
  have hb := HB.out.1.trans (H1.mono HB.out.1.size)
  refine ⟨rfl, .agg #[.int .i64 0, .int .i64 r, .string ⟨#[]⟩, .slice none 0 0], ?_, rfl, ?_⟩
  · simp [results, Tryz.f89, go_sem, c0, c1, c2, c3]
  · exact (((hb.setCell (by simp <;> omega) _).setCell (by simp <;> omega) _).setCell (by simp <;> omega) _).setCell (by simp <;> omega) _
set_option maxRecDepth 100000 in
set_option maxHeartbeats 2000000 in
theorem Do_cmps (o : Nat) (ho : o = 10 ∨ o = 11) (A B : LT) (n₀ : Nat) (w : World) (hTA : IsT n₀ w A) (hTB : IsT n₀ w B) (hn : n₀ ≤ w.heap.size) :
    Calls Tryz.prog 89 #[.int .i64 o, A.node.val, B.node.val] w fun e w' => e = .returned (wordV (binF o A B)) ∧ Below w.heap.size w w' := by
  have HB := Lib.hid (below3 w #[.int .i64 A.node.k, .int .i64 A.node.n, .string A.node.s, .slice A.node.a A.node.len A.node.cap] #[.int .i64 B.node.k, .int .i64 B.node.n, .string B.node.s, .slice B.node.a B.node.len B.node.cap] #[.int .i64 0, .int .i64 0, .string ⟨#[]⟩, .slice none 0 0] 44)
  obtain ⟨q, hq⟩ : ∃ q, ordF A B = q := ⟨_, rfl⟩
  have HC := Lib.hid (Compare05_any A.ht A B (Nat.le_refl _) n₀ _ (hTA.bel (HB.out.1.mono hn)) (hTB.bel (HB.out.1.mono hn)) (by have := HB.out.1.size; omega))
  rw [hq] at HC
  have HF : Hid (binF o A B = if o = 10 then ans 10 q 0 else ans 11 q 0) := Lib.hid (by
    rcases ho with rfl | rfl <;> simp [binF, hq])
  obtain ⟨z, hz⟩ : ∃ z, binF o A B = z := ⟨_, rfl⟩
  rw [hz] at HF ⊢
  clear hq hz hTA hTB hn
  obtain ⟨⟨xk, xn, xs, xa, xl, xc⟩, l⟩ := A
  obtain ⟨⟨yk, yn, ys, ya, yl, yc⟩, m⟩ := B
  dsimp only [LT.node, Node.val] at HB HC ⊢
  rcases ho with rfl | rfl
  · by_cases hq0 : q < 0
    all_goals
      have hz := HF.out
      simp [ans, hq0] at hz
      subst hz
      clear HF
      go_enter Tryz.func89, Tryz.ntmps89
      go_wp2_with (first
        | (go_at_call 81; refine HC.out.mono ?_; rintro e W1 ⟨rfl, H1⟩; have K1 := Lib.hid (And.intro (HB.out.1.trans (H1.mono HB.out.1.size)) (blk H1 HB.out.2.2.2)))
        | (go_at_call 135; refine (truth_any _ _).mono ?_; rintro e W2 ⟨rfl, H2⟩; have K2 := Lib.hid (K1.out.1.trans (H2.mono K1.out.1.size)); obtain ⟨⟨c0, c1, c2, c3⟩, ⟨d0, d1, d2, d3⟩⟩ := cells4 (blk H2 K1.out.2); unfold wordV))
      refine ⟨rfl, _, ?_, rfl, ?_⟩
      rotate_left
      · exact (((K2.out.setCell (by simp <;> omega) _).setCell (by simp <;> omega) _).setCell (by simp <;> omega) _).setCell (by simp <;> omega) _
      · simp [results, Tryz.f89, go_sem, c0, c1, c2, c3]
        rfl
  · by_cases hq0 : q = 0
    all_goals
      have hz := HF.out
      simp [ans, hq0] at hz
      subst hz
      clear HF
      go_enter Tryz.func89, Tryz.ntmps89
      go_wp2_with (first
        | (go_at_call 81; refine HC.out.mono ?_; rintro e W1 ⟨rfl, H1⟩; have K1 := Lib.hid (And.intro (HB.out.1.trans (H1.mono HB.out.1.size)) (blk H1 HB.out.2.2.2)))
        | (go_at_call 135; refine (truth_any _ _).mono ?_; rintro e W2 ⟨rfl, H2⟩; have K2 := Lib.hid (K1.out.1.trans (H2.mono K1.out.1.size)); obtain ⟨⟨c0, c1, c2, c3⟩, ⟨d0, d1, d2, d3⟩⟩ := cells4 (blk H2 K1.out.2); unfold wordV))
      refine ⟨rfl, _, ?_, rfl, ?_⟩
      rotate_left
      · exact (((K2.out.setCell (by simp <;> omega) _).setCell (by simp <;> omega) _).setCell (by simp <;> omega) _).setCell (by simp <;> omega) _
      · simp [results, Tryz.f89, go_sem, c0, c1, c2, c3]
        rfl
end Go.Proofs.YtlbnfokedkpccaaGreat
