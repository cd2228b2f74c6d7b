/- The walk of the statement CalcBin. -/
import Derived.Test.YtlbnfokedkpccaaGreatCalq
set_option linter.all false
namespace Go.Proofs.YtlbnfokedkpccaaGreat
open Go.RowKit Go.Shelf
attribute [local go_sem] Oper.semAt_some

set_option maxHeartbeats 1000000 in
theorem Same_word (n : Int) (w : World) : Calls Tryz.prog 25 #[wordV n, wordV n] w fun e w' => e = .returned (.bool true) ∧ Below w.heap.size w w' := by
  have hb : Below w.heap.size w ((w.alloc (.cells #[.int .i64 0, .int .i64 n, .string ⟨#[]⟩, .slice none 0 0] 44)).alloc (.cells #[.int .i64 0, .int .i64 n, .string ⟨#[]⟩, .slice none 0 0] 44)) := ((Below.refl _ _).alloc (Nat.le_refl _) _).alloc (by simp) _
  have hC := Compare05_any 1 (leaf n) (leaf n) (by simp [leaf, LT.ht, LT.htL]) 0 _ (leaf_is n 0 ((w.alloc (.cells #[.int .i64 0, .int .i64 n, .string ⟨#[]⟩, .slice none 0 0] 44)).alloc (.cells #[.int .i64 0, .int .i64 n, .string ⟨#[]⟩, .slice none 0 0] 44))) (leaf_is n 0 _) (Nat.zero_le _)
  rw [leaf_ord, show Lib.compareInt n n = 0 by simp [Lib.compareInt]] at hC
  dsimp only [leaf, LT.node, Node.val] at hC
  have HB := Lib.hid hb
  have HC := Lib.hid hC
  clear hb hC
  unfold wordV
  go_enter Tryz.func25, Tryz.ntmps25
  go_wp2_with (go_at_call 81; refine HC.out.mono ?_; rintro e W1 ⟨rfl, H1⟩)
  go_ret
  exact ⟨rfl, HB.out.trans (H1.mono HB.out.size)⟩
set_option maxRecDepth 100000 in
set_option maxHeartbeats 4000000 in
theorem CalcBin_any (o : Int) (A B : LT) (w : World) (hTA : IsT w.heap.size w A) (hSA : Sized A) (hTB : IsT w.heap.size w B) (hSB : Sized B)
    (hv : ∀ W, Below w.heap.size w W → Calls Tryz.prog 15 #[] W fun e W' => e = .returned (.bool true) ∧ Below W.heap.size W W') :
    Calls Tryz.prog 5 #[.int .i64 o, A.node.val, B.node.val] w fun e w' => e = .returned (.bool true) ∧ Below w.heap.size w w' := by
  have HP : Hid (∀ W, Below w.heap.size w W → Calls Tryz.prog 26 #[.int .i64 o, A.node.val, B.node.val] W fun e w' => e = .returned (.tuple #[wordV (binN o A B), .int .i64 (binE o A B)]) ∧ Hid (Below W.heap.size W w')) := Lib.hid fun W hW =>
    (Bin_all o A B hSA hSB w.heap.size W (hTA.bel hW) (hTB.bel hW) hW.size).mono fun e w' h => ⟨h.1, Lib.hid h.2⟩
  have HR : Hid (∀ W, Below w.heap.size w W → Calls Tryz.prog 27 #[.int .i64 o, A.node.val, B.node.val] W fun e w' => e = .returned (.tuple #[wordV (binN o A B), .int .i64 (binE o A B)]) ∧ Hid (Below W.heap.size W w')) := Lib.hid fun W hW =>
    (RBin_any o A B w.heap.size W (hTA.bel hW) (hTB.bel hW) hW.size).mono fun e w' h => ⟨h.1, Lib.hid h.2⟩
  have HV := Lib.hid hv
  have HB := Lib.hid (box2 w #[.int .i64 A.node.k, .int .i64 A.node.n, .string A.node.s, .slice A.node.a A.node.len A.node.cap] #[.int .i64 B.node.k, .int .i64 B.node.n, .string B.node.s, .slice B.node.a B.node.len B.node.cap] 44)
  have HB2 : Hid (Below w.heap.size w ((w.alloc (.cells #[.int .i64 A.node.k, .int .i64 A.node.n, .string A.node.s, .slice A.node.a A.node.len A.node.cap] 44)).alloc (.cells #[.int .i64 B.node.k, .int .i64 B.node.n, .string B.node.s, .slice B.node.a B.node.len B.node.cap] 44))) := Lib.hid (((Below.refl _ _).alloc (Nat.le_refl _) _).alloc (by simp) _)
  clear hTA hSA hTB hSB hv
  obtain ⟨n, hn⟩ : ∃ n, binN o A B = n := ⟨_, rfl⟩
  obtain ⟨z, hz⟩ : ∃ z, binE o A B = z := ⟨_, rfl⟩
  rw [hn, hz] at HP HR
  clear hn hz
  obtain ⟨⟨xk, xn, xs, xa, xl, xc⟩, l⟩ := A
  obtain ⟨⟨yk, yn, ys, ya, yl, yc⟩, m⟩ := B
  dsimp only [LT.node, Node.val] at HP HR HB HB2 ⊢
  by_cases h0 : z = 0
  · subst h0
    go_enter Tryz.func5, Tryz.ntmps5
    go_wp2_with (first
      | (go_at_call 26; refine (HP.out _ HB2.out).mono ?_; rintro e W1 ⟨rfl, H1⟩; have K1 := Lib.hid (HB2.out.trans (H1.out.mono HB2.out.size)); have L1 := Lib.hid (And.intro (blk H1.out HB.out.1) (blk H1.out HB.out.2)); obtain ⟨⟨a0, a1, a2, a3⟩, _⟩ := cells4 L1.out.1; obtain ⟨⟨b0, b1, b2, b3⟩, _⟩ := cells4 L1.out.2; have a0' := fun o => Below.cell_al o a0; have a1' := fun o => Below.cell_al o a1; have a2' := fun o => Below.cell_al o a2; have a3' := fun o => Below.cell_al o a3; have b0' := fun o => Below.cell_al o b0; have b1' := fun o => Below.cell_al o b1; have b2' := fun o => Below.cell_al o b2; have b3' := fun o => Below.cell_al o b3; have N1 := Lib.hid (World.alloc_heap_new W1 (.cells #[.int .i64 0, .int .i64 n, .string ⟨#[]⟩, .slice none 0 0] 44)); unfold wordV)
      | (go_at_call 27; refine (HR.out _ (K1.out.alloc K1.out.size _)).mono ?_; rintro e W2 ⟨rfl, H2⟩; have K2 := Lib.hid ((K1.out.alloc K1.out.size (.cells #[.int .i64 0, .int .i64 n, .string ⟨#[]⟩, .slice none 0 0] 44)).trans (H2.out.mono (K1.out.alloc K1.out.size _).size)); obtain ⟨⟨c0, c1, c2, c3⟩, _⟩ := cells4 (blk H2.out N1.out); have c0' := fun o => Below.cell_al o c0; have c1' := fun o => Below.cell_al o c1; have c2' := fun o => Below.cell_al o c2; have c3' := fun o => Below.cell_al o c3; unfold wordV)
      | (go_at_call 25; refine (Same_word n _).mono ?_; rintro e W3 ⟨rfl, H3⟩; have K3 := Lib.hid ((K2.out.alloc K2.out.size (.cells #[.int .i64 0, .int .i64 n, .string ⟨#[]⟩, .slice none 0 0] 44)).trans (H3.mono (K2.out.alloc K2.out.size _).size)))
      | (go_at_call 15; refine (HV.out _ K3.out).mono ?_; rintro e W4 ⟨rfl, H4⟩))
    go_ret
    exact ⟨rfl, K3.out.trans (H4.mono K3.out.size)⟩
  · have hz0 : (z != 0) = true := by simp [h0]
    have hz1 : (z == 0) = false := by simp [h0]
    go_enter Tryz.func5, Tryz.ntmps5
    go_wp2_with (first
      | (go_at_call 26; refine (HP.out _ HB2.out).mono ?_; rintro e W1 ⟨rfl, H1⟩; have K1 := Lib.hid (HB2.out.trans (H1.out.mono HB2.out.size)); have L1 := Lib.hid (And.intro (blk H1.out HB.out.1) (blk H1.out HB.out.2)); obtain ⟨⟨a0, a1, a2, a3⟩, _⟩ := cells4 L1.out.1; obtain ⟨⟨b0, b1, b2, b3⟩, _⟩ := cells4 L1.out.2; have a0' := fun o => Below.cell_al o a0; have a1' := fun o => Below.cell_al o a1; have a2' := fun o => Below.cell_al o a2; have a3' := fun o => Below.cell_al o a3; have b0' := fun o => Below.cell_al o b0; have b1' := fun o => Below.cell_al o b1; have b2' := fun o => Below.cell_al o b2; have b3' := fun o => Below.cell_al o b3; have N1 := Lib.hid (World.alloc_heap_new W1 (.cells #[.int .i64 0, .int .i64 n, .string ⟨#[]⟩, .slice none 0 0] 44)); unfold wordV)
      | (go_at_call 27; refine (HR.out _ (K1.out.alloc K1.out.size _)).mono ?_; rintro e W2 ⟨rfl, H2⟩; have K2 := Lib.hid ((K1.out.alloc K1.out.size (.cells #[.int .i64 0, .int .i64 n, .string ⟨#[]⟩, .slice none 0 0] 44)).trans (H2.out.mono (K1.out.alloc K1.out.size _).size)); obtain ⟨⟨c0, c1, c2, c3⟩, _⟩ := cells4 (blk H2.out N1.out); have c0' := fun o => Below.cell_al o c0; have c1' := fun o => Below.cell_al o c1; have c2' := fun o => Below.cell_al o c2; have c3' := fun o => Below.cell_al o c3; unfold wordV)
      | (go_at_call 25; refine (Same_word n _).mono ?_; rintro e W3 ⟨rfl, H3⟩; have K3 := Lib.hid ((K2.out.alloc K2.out.size (.cells #[.int .i64 0, .int .i64 n, .string ⟨#[]⟩, .slice none 0 0] 44)).trans (H3.mono (K2.out.alloc K2.out.size _).size)))
      | (go_at_call 15; refine (HV.out _ (K2.out.alloc K2.out.size _)).mono ?_; rintro e W4 ⟨rfl, H4⟩))
    go_ret
    exact ⟨rfl, (K2.out.alloc K2.out.size _).trans (H4.mono (K2.out.alloc K2.out.size _).size)⟩
end Go.Proofs.YtlbnfokedkpccaaGreat
