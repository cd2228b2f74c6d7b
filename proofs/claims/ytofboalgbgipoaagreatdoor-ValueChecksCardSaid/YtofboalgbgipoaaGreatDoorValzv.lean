/- Which values are valid, as the reference says it. -/
import Derived.Test.YtofboalgbgipoaaGreatDoorValx
set_option linter.all false
namespace Go.Proofs.YtofboalgbgipoaaGreatDoor
open Go.RowKit Go.Shelf
attribute [local go_sem] Oper.semAt_some

/-- Sizes that a value that came in has. -/
abbrev Sized (T : LT) : Prop := ∀ x ∈ T.pre 1, x.2.s.size ≤ maxLen ∧ x.2.len ≤ maxLen
set_option maxRecDepth 100000 in
set_option maxHeartbeats 2000000 in
theorem Valid_any (T : LT) (n₀ : Nat) (w : World) (hT : IsT n₀ w T) (hn : n₀ ≤ w.heap.size) :
    Calls Tryz.prog 22 #[T.node.val] w fun e w' => e = .returned (.bool (validF T)) ∧ Below w.heap.size w w' := by
  have HS : Hid (∀ W, Below w.heap.size w W → Calls Tryz.prog 47 #[T.node.val, .int .i64 6] W fun e W' => e = .returned (.bool (shapedF 6 T)) ∧ Hid (Below W.heap.size W W')) := Lib.hid fun W hW =>
    (shaped_any 6 6 rfl (by omega) T n₀ W (hT.bel (hW.mono hn)) (by have := hW.size; omega)).mono fun e W' h => ⟨h.1, Lib.hid h.2⟩
  have HC : Hid (shapedF 6 T = true → ∀ W, Below w.heap.size w W → Calls Tryz.prog 23 #[T.node.val] W fun e W' => e = .returned (.int .i64 T.cnt) ∧ Hid (Below w.heap.size w W')) := Lib.hid fun h W hW =>
    (count_any 6 T (by omega) h n₀ W (hT.bel (hW.mono hn)) (by have := hW.size; omega)).mono fun e W' h => ⟨h.1, Lib.hid (hW.trans (h.2.mono hW.size))⟩
  clear hT hn
  unfold validF
  obtain ⟨s, hs⟩ : ∃ s, shapedF 6 T = s := ⟨_, rfl⟩
  obtain ⟨c, hc⟩ : ∃ c, T.cnt = c := ⟨_, rfl⟩
  rw [hs, hc] at HC
  rw [hs] at HS
  rw [hs, hc]
  clear hs hc
  obtain ⟨⟨xk, xn, xs, xa, xl, xc⟩, l⟩ := T
  dsimp only [LT.node, Node.val] at HS HC ⊢
  have HQ := Lib.hid (World.alloc_heap_new w (.cells #[.int .i64 xk, .int .i64 xn, .string xs, .slice xa xl xc] 24))
  have hb1 : Below w.heap.size w (w.alloc (.cells #[.int .i64 xk, .int .i64 xn, .string xs, .slice xa xl xc] 24)) := (Below.refl _ _).alloc (Nat.le_refl _) _
  have HX := Lib.hid hb1
  clear hb1
  cases s with
  | false =>
    go_enter Tryz.func22, Tryz.ntmps22
    go_wp2_with (go_at_call 47; refine (HS.out _ HX.out).mono ?_; rintro e W3 ⟨rfl, H3⟩)
    go_ret
    exact ⟨ret_bool rfl, HX.out.trans (H3.out.mono HX.out.size)⟩
  | true =>
    have HC' := Lib.hid (HC.out rfl)
    clear HC
    by_cases h60 : c ≤ 60
    all_goals
      go_enter Tryz.func22, Tryz.ntmps22
      go_wp2_with (first
        | (go_at_call 47; refine (HS.out _ HX.out).mono ?_; rintro e W3 ⟨rfl, H3⟩; have H3' := Lib.hid (HX.out.trans (H3.out.mono HX.out.size)); obtain ⟨⟨b0, b1, b2, b3⟩, _⟩ := cells4 ((H3.out.block _ (Array.getElem?_eq_some_iff.1 HQ.out).1).trans HQ.out))
        | (go_at_call 23; refine (HC'.out _ H3'.out).mono ?_; rintro e W4 ⟨rfl, H4⟩))
      go_ret
      exact ⟨ret_bool (by simp [h60]; omega), H4.out⟩
end Go.Proofs.YtofboalgbgipoaaGreatDoor
