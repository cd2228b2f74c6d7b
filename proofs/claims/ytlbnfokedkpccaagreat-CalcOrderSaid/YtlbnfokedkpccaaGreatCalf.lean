/- Bin, of values that it takes. -/
import Derived.Test.YtlbnfokedkpccaaGreatCale
import Derived.Test.YtlbnfokedkpccaaGreatCalb
set_option linter.all false
namespace Go.Proofs.YtlbnfokedkpccaaGreat
open Go.RowKit Go.Shelf
attribute [local go_sem] Oper.semAt_some

/-- What an operation answers. -/
def binF (op : Nat) (A B : LT) : Int := if op = 10 then ans 10 (ordF A B) 0 else if op = 11 then ans 11 (ordF A B) 0 else ans op A.node.n B.node.n
theorem done_any (op : Nat) (hop : op < 12) (A B : LT) (hA : validF A = true) (hB : validF B = true) (hSA : Sized A) (hSB : Sized B) (hk : op < 10 → In A.node.n ∧ In B.node.n) (n₀ : Nat) (w : World) (hTA : IsT n₀ w A) (hTB : IsT n₀ w B) (hn : n₀ ≤ w.heap.size) :
    Calls Tryz.prog 87 #[.int .i64 op, A.node.val, B.node.val] w fun e w' => e = .returned (wordV (binF op A B)) ∧ Below w.heap.size w w' := by
  have h : op = 0 ∨ op = 1 ∨ op = 2 ∨ op = 3 ∨ op = 4 ∨ op = 5 ∨ op = 6 ∨ op = 7 ∨ op = 8 ∨ op = 9 ∨ op = 10 ∨ op = 11 := by omega
  rcases h with rfl | rfl | rfl | rfl | rfl | rfl | rfl | rfl | rfl | rfl | rfl | rfl
  · exact done_0 A.node B.node (hk (by omega)).1 (hk (by omega)).2 w
  · exact done_1 A.node B.node (hk (by omega)).1 (hk (by omega)).2 w
  · exact done_2 A.node B.node (hk (by omega)).1 (hk (by omega)).2 w
  · exact done_3 A.node B.node (hk (by omega)).1 (hk (by omega)).2 w
  · exact done_4 A.node B.node (hk (by omega)).1 (hk (by omega)).2 w
  · exact done_5 A.node B.node (hk (by omega)).1 (hk (by omega)).2 w
  · exact done_6 A.node B.node (hk (by omega)).1 (hk (by omega)).2 w
  · exact done_7 A.node B.node (hk (by omega)).1 (hk (by omega)).2 w
  · exact done_8 A.node B.node (hk (by omega)).1 (hk (by omega)).2 w
  · exact done_9 A.node B.node (hk (by omega)).1 (hk (by omega)).2 w
  · exact done_10 A B hA hB hSA hSB n₀ w hTA hTB hn
  · exact done_11 A B hA hB hSA hSB n₀ w hTA hTB hn

set_option maxRecDepth 100000 in
set_option maxHeartbeats 1000000 in
theorem isValue_any (V : LT) (hS : Sized V) (n₀ : Nat) (w : World) (hT : IsT n₀ w V) (hn : n₀ ≤ w.heap.size) :
    Calls Tryz.prog 84 #[V.node.val] w fun e w' => e = .returned (.bool (validF V)) ∧ Below w.heap.size w w' := by
  have HC : Hid (∀ W, Below w.heap.size w W → Calls Tryz.prog 131 #[V.node.val] W fun e w' => e = .returned (.int .i64 (if validF V = true then 0 else 1)) ∧ Hid (Below W.heap.size W w')) := Lib.hid fun W hW => by
    have hc := Check_all V W ((hT.bel (hW.mono hn)).more (by have := hW.size; omega)) hS
    have he : (if sizeF V = 0 then (1 : Int) else 0) = if validF V = true then 0 else 1 := by
      by_cases h : validF V = true
      · rw [if_pos h, if_neg (fun e => by rw [(sizeF_zero V).1 e] at h; cases h)]
      · rw [if_neg h, if_pos ((sizeF_zero V).2 (by simpa using h))]
    rw [he] at hc
    exact hc.mono fun e w' h => ⟨h.1, Lib.hid h.2⟩
  clear hT hn hS
  obtain ⟨p, hp⟩ : ∃ p, validF V = p := ⟨_, rfl⟩
  rw [hp] at HC ⊢
  clear hp
  obtain ⟨⟨xk, xn, xs, xa, xl, xc⟩, l⟩ := V
  dsimp only [LT.node, Node.val] at HC ⊢
  have HX : Hid (Below w.heap.size w (w.alloc (.cells #[.int .i64 xk, .int .i64 xn, .string xs, .slice xa xl xc] 44))) := Lib.hid ((Below.refl _ _).alloc (Nat.le_refl _) _)
  cases p
  all_goals
    simp only [Bool.false_eq_true, if_false, if_true] at HC
    go_enter Tryz.func84, Tryz.ntmps84
    go_wp2_with (go_at_call 131; refine (HC.out _ HX.out).mono ?_; rintro e w3 ⟨rfl, H3⟩)
    go_ret
    exact ⟨rfl, HX.out.trans (H3.out.mono HX.out.size)⟩
set_option maxHeartbeats 1000000 in
theorem isWord_any (x : Node) (w : World) : Calls Tryz.prog 86 #[x.val] w fun e w' => e = .returned (.bool (decide (x.k = 0))) ∧ Below w.heap.size w w' := by
  obtain ⟨xk, xn, xs, xa, xl, xc⟩ := x
  dsimp only [Node.val]
  by_cases h : xk = 0
  all_goals
    go_enter Tryz.func86, Tryz.ntmps86
    go_wp2
    go_ret
    exact ⟨ret_bool (by simp [h]), (Below.refl _ _).alloc (Nat.le_refl _) _⟩
set_option maxHeartbeats 1000000 in
theorem Unless_ok (n : Int) (w : World) : Calls Tryz.prog 75 #[.bool true, .int .i64 n] w fun e w' => e = .returned (.tuple #[]) ∧ w' = w := by
  go_enter Tryz.func75, Tryz.ntmps75
  go_wp2
  go_end0
  exact ⟨rfl, rfl⟩
end Go.Proofs.YtlbnfokedkpccaaGreat
