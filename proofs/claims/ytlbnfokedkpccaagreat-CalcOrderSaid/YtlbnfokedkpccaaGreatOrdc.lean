/- Does an operation say yes of two values: what the law's own function answers. -/
import Derived.Test.YtlbnfokedkpccaaGreatOrdb
set_option linter.all false
namespace Go.Proofs.YtlbnfokedkpccaaGreat
open Go.RowKit Go.Shelf
attribute [local go_sem] Oper.semAt_some

/-- Does an operation say yes? -/
def saysF (o : Int) (A B : LT) : Bool := binE o A B == 0 && binN o A B == 1
set_option maxRecDepth 100000 in
set_option maxHeartbeats 2000000 in
theorem Says_any (o : Int) (A B : LT) (hSA : Sized A) (hSB : Sized B) (n₀ : Nat) (w : World) (hTA : IsT n₀ w A) (hTB : IsT n₀ w B) (hn₀ : n₀ ≤ w.heap.size) :
    Calls Tryz.prog 51 #[.int .i64 o, A.node.val, B.node.val] w fun e w' => e = .returned (.bool (saysF o A B)) ∧ Below w.heap.size w w' := by
  have HP : Hid (∀ W, Below w.heap.size w W → Calls Tryz.prog 26 #[.int .i64 o, A.node.val, B.node.val] W fun e w' => e = .returned (.tuple #[wordV (binN o A B), .int .i64 (binE o A B)]) ∧ Hid (Below W.heap.size W w')) := Lib.hid fun W hW =>
    (Bin_all o A B hSA hSB n₀ W (hTA.bel (hW.mono hn₀)) (hTB.bel (hW.mono hn₀)) (by have := hW.size; omega)).mono fun e w' h => ⟨h.1, Lib.hid h.2⟩
  have HB2 : Hid (Below w.heap.size w ((w.alloc (.cells #[.int .i64 A.node.k, .int .i64 A.node.n, .string A.node.s, .slice A.node.a A.node.len A.node.cap] 44)).alloc (.cells #[.int .i64 B.node.k, .int .i64 B.node.n, .string B.node.s, .slice B.node.a B.node.len B.node.cap] 44))) := Lib.hid (((Below.refl _ _).alloc (Nat.le_refl _) _).alloc (by simp) _)
  clear hTA hSA hTB hSB
  unfold saysF
  obtain ⟨n, hn⟩ : ∃ n, binN o A B = n := ⟨_, rfl⟩
  obtain ⟨z, hz⟩ : ∃ z, binE o A B = z := ⟨_, rfl⟩
  rw [hn, hz] at HP
  rw [hn, hz]
  clear hn hz
  obtain ⟨⟨xk, xn, xs, xa, xl, xc⟩, l⟩ := A
  obtain ⟨⟨yk, yn, ys, ya, yl, yc⟩, m⟩ := B
  dsimp only [LT.node, Node.val] at HP HB2 ⊢
  unfold wordV at HP
  by_cases h0 : z = 0
  · subst h0
    go_enter Tryz.func51, Tryz.ntmps51
    go_wp2_with (go_at_call 26; refine (HP.out _ HB2.out).mono ?_; rintro e W1 ⟨rfl, H1⟩; have K1 := Lib.hid (HB2.out.trans (H1.out.mono HB2.out.size)); obtain ⟨⟨d0, d1, d2, d3⟩, _⟩ := cells4 (World.alloc_heap_new W1 (.cells #[.int .i64 0, .int .i64 n, .string ⟨#[]⟩, .slice none 0 0] 44)))
    go_ret
    exact ⟨by simp, K1.out.alloc K1.out.size _⟩
  · have hz0 : (z == 0) = false := by simp [h0]
    go_enter Tryz.func51, Tryz.ntmps51
    go_wp2_with (go_at_call 26; refine (HP.out _ HB2.out).mono ?_; rintro e W1 ⟨rfl, H1⟩; have K1 := Lib.hid (HB2.out.trans (H1.out.mono HB2.out.size)))
    go_ret
    exact ⟨by simp [hz0], K1.out.alloc K1.out.size _⟩

theorem says_ok (op : Nat) (ho : op = 10 ∨ op = 11) (A B : LT) (hA : validF A = true) (hB : validF B = true) : saysF op A B = (binF op A B == 1) := by
  have h1 : ¬ ((op : Int) < 0 ∨ 12 ≤ (op : Int) ∨ validF A = false ∨ validF B = false) := by rw [hA, hB]; rcases ho with rfl | rfl <;> simp
  have h2 : ¬ ((op : Int) < 10 ∧ (A.node.k = 0 → ¬ B.node.k = 0)) := fun h => by rcases ho with rfl | rfl <;> omega
  unfold saysF binE binN
  rw [if_neg h1, if_neg h1, if_neg h2, if_neg h2]
  simp
theorem says_less (A B : LT) (hA : validF A = true) (hB : validF B = true) : saysF 10 A B = decide (ordF A B < 0) := by
  rw [show (10 : Int) = ((10 : Nat) : Int) from rfl, says_ok 10 (.inl rfl) A B hA hB]
  unfold binF
  rw [if_pos rfl]
  unfold ans
  by_cases h : ordF A B < 0 <;> simp [h]
theorem says_same (A B : LT) (hA : validF A = true) (hB : validF B = true) : saysF 11 A B = decide (ordF A B = 0) := by
  rw [show (11 : Int) = ((11 : Nat) : Int) from rfl, says_ok 11 (.inr rfl) A B hA hB]
  unfold binF
  rw [if_neg (by omega), if_pos rfl]
  unfold ans
  by_cases h : ordF A B = 0 <;> simp [h]
/-- Of two values just one comes first, or they are the same. -/
theorem says_one (A B : LT) (hA : validF A = true) (hB : validF B = true) :
    (saysF 10 A B = true ∧ saysF 10 B A = false ∧ saysF 11 A B = false) ∨ (saysF 10 A B = false ∧ saysF 10 B A = true ∧ saysF 11 A B = false) ∨ (saysF 10 A B = false ∧ saysF 10 B A = false ∧ saysF 11 A B = true) := by
  rw [says_less A B hA hB, says_less B A hB hA, says_same A B hA hB, ordF_anti B A]
  simp only [decide_eq_true_eq, decide_eq_false_iff_not]
  omega
/-- What comes before one that comes before a third one comes before that. -/
theorem says_trn (A B C : LT) (hA : validF A = true) (hB : validF B = true) (hC : validF C = true) (h1 : saysF 10 A B = true) (h2 : saysF 10 B C = true) : saysF 10 A C = true := by
  rw [says_less A B hA hB] at h1
  rw [says_less B C hB hC] at h2
  rw [says_less A C hA hC]
  have h := ordF_trn A B C
  simp only [decide_eq_true_eq] at h1 h2 ⊢
  unfold Trn at h
  omega
end Go.Proofs.YtlbnfokedkpccaaGreat
