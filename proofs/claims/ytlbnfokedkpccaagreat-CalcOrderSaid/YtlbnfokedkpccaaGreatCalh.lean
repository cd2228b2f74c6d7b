/- Bin, of values that it takes; of two words. -/
import Derived.Test.YtlbnfokedkpccaaGreatCalg
set_option linter.all false
namespace Go.Proofs.YtlbnfokedkpccaaGreat
open Go.RowKit Go.Shelf
attribute [local go_sem] Oper.semAt_some

theorem valid_word {A : LT} (h : validF A = true) (hk : A.node.k = 0) : In A.node.n := by
  obtain ⟨x, l⟩ := A
  have h1 := ((validF_ok h).1.parts).1
  simp only [LT.node] at hk ⊢
  rw [hk] at h1
  unfold okNode at h1
  rw [if_pos rfl] at h1
  simp only [Bool.and_eq_true, decide_eq_true_eq] at h1
  exact ⟨h1.1.1.1, h1.1.1.2⟩
theorem Bin_ok (op : Nat) (hop : op < 12) (A B : LT) (hA : validF A = true) (hB : validF B = true) (hSA : Sized A) (hSB : Sized B) (hk : op < 10 → A.node.k = 0 ∧ B.node.k = 0) (n₀ : Nat) (w : World) (hTA : IsT n₀ w A) (hTB : IsT n₀ w B) (hn : n₀ ≤ w.heap.size) :
    Calls Tryz.prog 26 #[.int .i64 op, A.node.val, B.node.val] w fun e w' => e = .returned (.tuple #[wordV (binF op A B), .int .i64 0]) ∧ Below w.heap.size w w' := by
  refine Bin_by op A B (binF op A B) w fun W hW p q r hp hq hr => ?_
  have hTA' := hTA.bel (hW.mono hn)
  have hTB' := hTB.bel (hW.mono hn)
  have hn' : n₀ ≤ W.heap.size := by have := hW.size; omega
  have hd : ∀ V, Below W.heap.size W V → Calls Tryz.prog 87 #[.int .i64 op, A.node.val, B.node.val] V fun e w' => e = .returned (wordV (binF op A B)) ∧ Below V.heap.size V w' := fun V hV =>
    done_any op hop A B hA hB hSA hSB (fun h => ⟨valid_word hA (hk h).1, valid_word hB (hk h).2⟩) n₀ V (hTA'.bel (hV.mono hn')) (hTB'.bel (hV.mono hn')) (by have := hV.size; omega)
  by_cases h : op < 10
  · exact Bin1_words op (by omega) (by omega) A B hA hB hSA hSB (hk h).1 (hk h).2 _ n₀ p q r W hTA' hTB' hn' hp hq hr hd
  · exact Bin1_cmps op (by omega) A B hA hB hSA hSB _ n₀ p q r W hTA' hTB' hn' hp hq hr hd

/-- A word, as a tree. -/
def leaf (n : Int) : LT := .mk ⟨0, n, ⟨#[]⟩, none, 0, 0⟩ []
theorem leaf_valid {n : Int} (h : In n) : validF (leaf n) = true := by
  have h1 := h.1
  have h2 := h.2
  simp [validF, leaf, shapedF, okNode, LT.cnt, LT.cntL, h1, h2]
theorem leaf_sized (n : Int) : Sized (leaf n) := by
  intro x hx
  simp [leaf, LT.pre, LT.preL] at hx
  subst hx
  exact ⟨Nat.zero_le _, Nat.zero_le _⟩
theorem leaf_is (n : Int) (n₀ : Nat) (W : World) : IsT n₀ W (leaf n) := by
  refine .mk _ _ rfl (Nat.zero_le _) (by simp) (fun i c hi => by simp at hi) (fun c hc => by simp at hc)
theorem leaf_ord (x y : Int) : ordF (leaf x) (leaf y) = Lib.compareInt x y := by
  unfold leaf
  by_cases h : x = y
  · subst h
    rw [ordF_l rfl rfl rfl]
    simp [ordL, Lib.compareInt]
  · exact ordF_n rfl h
theorem leaf_bin (op : Nat) (hop : op < 12) (x y : Int) : binF op (leaf x) (leaf y) = ans op x y := by
  unfold binF
  rw [leaf_ord]
  by_cases h : op = 10
  · subst h
    simp only [if_true, ans, Lib.compareInt]
    repeat' split
    all_goals first | rfl | omega
  · by_cases h' : op = 11
    · subst h'
      simp only [h, if_false, if_true, ans, Lib.compareInt]
      repeat' split
      all_goals first | rfl | omega
    · simp only [h, h', if_false]
      rfl
theorem Bin_word (op : Nat) (hop : op < 12) (x y : Int) (hx : In x) (hy : In y) (w : World) :
    Calls Tryz.prog 26 #[.int .i64 op, wordV x, wordV y] w fun e w' => e = .returned (.tuple #[wordV (ans op x y), .int .i64 0]) ∧ Below w.heap.size w w' := by
  have h := Bin_ok op hop (leaf x) (leaf y) (leaf_valid hx) (leaf_valid hy) (leaf_sized x) (leaf_sized y) (fun _ => ⟨rfl, rfl⟩) 0 w (leaf_is x 0 w) (leaf_is y 0 w) (Nat.zero_le _)
  rw [leaf_bin op hop] at h
  exact h
set_option maxHeartbeats 1000000 in
theorem RInt_any (n : Int) (w : World) : Calls Tryz.prog 55 #[.int .i64 n] w fun e w' => e = .returned (wordV n) ∧ Below w.heap.size w w' := by
  go_enter Tryz.func55, Tryz.ntmps55
  go_wp2
  refine ⟨rfl, wordV n, ?_, rfl, (Below.refl _ _).alloc (Nat.le_refl _) _⟩
  simp [results, Tryz.f55, go_sem, wordV]
set_option maxRecDepth 100000 in
set_option maxHeartbeats 2000000 in
theorem do_any (op : Nat) (hop : op < 12) (x y : Int) (hx : In x) (hy : In y) (w : World) :
    Calls Tryz.prog 47 #[.int .i64 op, .int .i64 x, .int .i64 y] w fun e w' => e = .returned (.int .i64 (ans op x y)) ∧ Below w.heap.size w w' := by
  have HB := Lib.hid (Bin_word op hop x y hx hy)
  obtain ⟨r, hr⟩ : ∃ r, ans op x y = r := ⟨_, rfl⟩
  rw [hr] at HB ⊢
  clear hr hx hy hop
  go_enter Tryz.func47, Tryz.ntmps47
  go_wp2_with (first
    | (go_at_call_of 55 (Value.int IntKind.i64 x); refine (RInt_any _ _).mono ?_; rintro e W1 ⟨rfl, H1⟩)
    | (go_at_call_of 55 (Value.int IntKind.i64 y); refine (RInt_any _ _).mono ?_; rintro e W2 ⟨rfl, H2⟩; have HW2 := Lib.hid (H1.trans (H2.mono H1.size)))
    | (go_at_call 26; refine (HB.out _).mono ?_; rintro e W3 ⟨rfl, H3⟩; have HW3 := Lib.hid (HW2.out.trans (H3.mono HW2.out.size)); unfold wordV))
  go_ret
  exact ⟨rfl, HW3.out.alloc HW3.out.size _⟩
end Go.Proofs.YtlbnfokedkpccaaGreat
