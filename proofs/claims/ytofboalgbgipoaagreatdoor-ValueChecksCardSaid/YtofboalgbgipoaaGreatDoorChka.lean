/- Which types and values are valid, and is one of the other, whatever they are: the program and the reference. -/
import Derived.Test.YtofboalgbgipoaaGreatDoorFit
import Derived.Test.YtofboalgbgipoaaGreatDoorLste
set_option linter.all false
namespace Go.Proofs.YtofboalgbgipoaaGreatDoor
open Go.RowKit Go.Shelf
attribute [local go_sem] Oper.semAt_some

theorem IsY.lens {n₀ : Nat} {W : World} {T : YT} (h : IsY n₀ W T) : ∀ (d : Int), ∀ x ∈ T.pre d, x.2.len ≤ maxLen := by
  induction h with
  | mk x l hlen hm _ _ ih =>
    intro d y hy
    simp only [YT.pre, List.mem_cons] at hy
    rcases hy with rfl | hy
    · show x.len ≤ maxLen
      unfold maxLen; omega
    · have : ∀ (m : List YT), (∀ c ∈ m, c ∈ l) → y ∈ YT.preL (d + 1) m → ∃ c ∈ l, y ∈ YT.pre (d + 1) c := by
        intro m
        induction m with
        | nil => intro _ h; simp [YT.preL] at h
        | cons t m ihm =>
          intro hsub h
          simp only [YT.preL, List.mem_append] at h
          rcases h with h | h
          · exact ⟨t, hsub t (by simp), h⟩
          · exact ihm (fun c hc => hsub c (by simp [hc])) h
      obtain ⟨c, hc, hyc⟩ := this l (fun c h => h) hy
      exact ih c hc (d + 1) y hyc
/-- An error: 1 unless it is so. -/
def errF (b : Bool) : Int := if b = true then 0 else 1
set_option maxRecDepth 100000 in
set_option maxHeartbeats 2000000 in
theorem RValidType_any (T : YT) (n₀ : Nat) (w : World) (hT : IsY n₀ w T) (hn : n₀ ≤ w.heap.size) :
    Calls Tryz.prog 26 #[T.node.val] w fun e w' => e = .returned (.bool (validY T)) ∧ Below w.heap.size w w' := by
  have HS : Hid (∀ W, Below w.heap.size w W → Calls Tryz.prog 52 #[T.node.val, .int .i64 6] W fun e W' => e = .returned (.bool (typedF 6 T)) ∧ Hid (Below W.heap.size W W')) := Lib.hid fun W hW =>
    (typed_any 6 6 rfl (by omega) T n₀ W (hT.bel (hW.mono hn)) (by have := hW.size; omega)).mono fun e W' h => ⟨h.1, Lib.hid h.2⟩
  have HC : Hid (typedF 6 T = true → ∀ W, Below w.heap.size w W → Calls Tryz.prog 53 #[T.node.val] W fun e W' => e = .returned (.int .i64 T.cnt) ∧ Hid (Below w.heap.size w W')) := Lib.hid fun h W hW =>
    (types_any 6 T (by omega) h n₀ W (hT.bel (hW.mono hn)) (by have := hW.size; omega)).mono fun e W' h => ⟨h.1, Lib.hid (hW.trans (h.2.mono hW.size))⟩
  clear hT hn
  unfold validY
  obtain ⟨s, hs⟩ : ∃ s, typedF 6 T = s := ⟨_, rfl⟩
  obtain ⟨c, hc⟩ : ∃ c, T.cnt = c := ⟨_, rfl⟩
  rw [hs, hc] at HC
  rw [hs] at HS
  rw [hs, hc]
  clear hs hc
  obtain ⟨⟨xk, xa, xl, xc⟩, l⟩ := T
  dsimp only [YT.node, TNode.val] at HS HC ⊢
  have HQ := Lib.hid (World.alloc_heap_new w (.cells #[.int .i64 xk, .slice xa xl xc] 27))
  have hb1 : Below w.heap.size w (w.alloc (.cells #[.int .i64 xk, .slice xa xl xc] 27)) := (Below.refl _ _).alloc (Nat.le_refl _) _
  have HX := Lib.hid hb1
  clear hb1
  cases s with
  | false =>
    go_enter Tryz.func26, Tryz.ntmps26
    go_wp2_with (go_at_call 52; refine (HS.out _ HX.out).mono ?_; rintro e W3 ⟨rfl, H3⟩)
    go_ret
    exact ⟨ret_bool rfl, HX.out.trans (H3.out.mono HX.out.size)⟩
  | true =>
    have HC' := Lib.hid (HC.out rfl)
    clear HC
    by_cases h60 : c ≤ 40
    all_goals
      go_enter Tryz.func26, Tryz.ntmps26
      go_wp2_with (first
        | (go_at_call 52; refine (HS.out _ HX.out).mono ?_; rintro e W3 ⟨rfl, H3⟩; have H3' := Lib.hid (HX.out.trans (H3.out.mono HX.out.size)); obtain ⟨⟨b0, b1⟩, _⟩ := cells2 ((H3.out.block _ (Array.getElem?_eq_some_iff.1 HQ.out).1).trans HQ.out))
        | (go_at_call 53; refine (HC'.out _ H3'.out).mono ?_; rintro e W4 ⟨rfl, H4⟩))
      go_ret
      exact ⟨ret_bool (by simp [h60]; omega), H4.out⟩
set_option maxRecDepth 100000 in
set_option maxHeartbeats 2000000 in
theorem RType_all (T : YT) (n₀ : Nat) (w : World) (hT : IsY n₀ w T) (hn : n₀ ≤ w.heap.size) :
    Calls Tryz.prog 10 #[T.node.val] w fun e w' => e = .returned (.int .i64 (errF (validY T))) ∧ Below w.heap.size w w' := by
  have hb1 : Below w.heap.size w (w.alloc (.cells #[.int .i64 T.node.k, .slice T.node.a T.node.len T.node.cap] 27)) := (Below.refl _ _).alloc (Nat.le_refl _) _
  have hV : Calls Tryz.prog 26 #[T.node.val] (w.alloc (.cells #[.int .i64 T.node.k, .slice T.node.a T.node.len T.node.cap] 27)) fun e w' => e = .returned (.bool (validY T)) ∧ Hid (Below w.heap.size w w') :=
    (RValidType_any T n₀ _ (hT.bel (hb1.mono hn)) (by have := hb1.size; omega)).mono fun e W' h => ⟨h.1, Lib.hid (hb1.trans (h.2.mono hb1.size))⟩
  obtain ⟨s, hs⟩ : ∃ s, validY T = s := ⟨_, rfl⟩
  rw [hs] at hV ⊢
  clear hs hT hn hb1
  dsimp only [TNode.val] at hV ⊢
  cases s
  all_goals
    go_enter Tryz.func10, Tryz.ntmps10
    go_wp2_with (go_at_call 26; refine hV.mono ?_; clear hV; rintro e W3 ⟨rfl, H3⟩)
    go_ret
    exact ⟨ret_int rfl, H3.out⟩
set_option maxRecDepth 100000 in
set_option maxHeartbeats 2000000 in
theorem PType_all (T : YT) (n₀ : Nat) (w : World) (hT : IsY n₀ w T) (hn : n₀ ≤ w.heap.size) :
    Calls Tryz.prog 9 #[T.node.val] w fun e w' => e = .returned (.int .i64 (errF (validY T))) ∧ Below w.heap.size w w' := by
  have hb1 : Below w.heap.size w (w.alloc (.cells #[.int .i64 T.node.k, .slice T.node.a T.node.len T.node.cap] 27)) := (Below.refl _ _).alloc (Nat.le_refl _) _
  have hV : Calls Tryz.prog 24 #[T.node.val] (w.alloc (.cells #[.int .i64 T.node.k, .slice T.node.a T.node.len T.node.cap] 27)) fun e w' => e = .returned (.bool (validY T)) ∧ Hid (Below w.heap.size w w') :=
    (rightType_any T n₀ _ (hT.bel (hb1.mono hn)) (hT.lens 1) (by have := hb1.size; omega)).mono fun e W' h => ⟨h.1, Lib.hid (hb1.trans (h.2.mono hb1.size))⟩
  obtain ⟨s, hs⟩ : ∃ s, validY T = s := ⟨_, rfl⟩
  rw [hs] at hV ⊢
  clear hs hT hn hb1
  dsimp only [TNode.val] at hV ⊢
  cases s
  all_goals
    go_enter Tryz.func9, Tryz.ntmps9
    go_wp2_with (go_at_call 24; refine hV.mono ?_; clear hV; rintro e W3 ⟨rfl, H3⟩)
    go_ret
    exact ⟨ret_int rfl, H3.out⟩
theorem sized_err (V : LT) : (if sizeF V = 0 then (1 : Int) else 0) = errF (validF V) := by
  unfold errF
  by_cases h : validF V = true
  · rw [if_pos h, if_neg (fun e => by rw [(sizeF_zero V).1 e] at h; cases h)]
  · rw [if_neg h, if_pos ((sizeF_zero V).2 (by simpa using h))]
theorem PCheck_all (V : LT) (hS : Sized V) (n₀ : Nat) (w : World) (hV : IsT n₀ w V) (hn : n₀ ≤ w.heap.size) :
    Calls Tryz.prog 11 #[V.node.val] w fun e w' => e = .returned (.int .i64 (errF (validF V))) ∧ Below w.heap.size w w' := by
  have h := Check_all V w (hV.more hn) hS
  rwa [sized_err] at h
/-- How large it is; 0 if it is not valid. -/
theorem PSize_all (V : LT) (hS : Sized V) (n₀ : Nat) (w : World) (hV : IsT n₀ w V) (hn : n₀ ≤ w.heap.size) :
    Calls Tryz.prog 5 #[V.node.val] w fun e w' => e = .returned (.tuple #[.int .i64 (sizeF V), .int .i64 (errF (validF V))]) ∧ Below w.heap.size w w' := by
  have h := Size_all V w (hV.more hn) hS
  rwa [sized_err] at h
set_option maxRecDepth 100000 in
set_option maxHeartbeats 2000000 in
theorem RCheck_all (V : LT) (n₀ : Nat) (w : World) (hT : IsT n₀ w V) (hn : n₀ ≤ w.heap.size) :
    Calls Tryz.prog 12 #[V.node.val] w fun e w' => e = .returned (.int .i64 (errF (validF V))) ∧ Below w.heap.size w w' := by
  have hb1 : Below w.heap.size w (w.alloc (.cells #[.int .i64 V.node.k, .int .i64 V.node.n, .string V.node.s, .slice V.node.a V.node.len V.node.cap] 24)) := (Below.refl _ _).alloc (Nat.le_refl _) _
  have hV : Calls Tryz.prog 22 #[V.node.val] (w.alloc (.cells #[.int .i64 V.node.k, .int .i64 V.node.n, .string V.node.s, .slice V.node.a V.node.len V.node.cap] 24)) fun e w' => e = .returned (.bool (validF V)) ∧ Hid (Below w.heap.size w w') :=
    (Valid_any V n₀ _ (hT.bel (hb1.mono hn)) (by have := hb1.size; omega)).mono fun e W' h => ⟨h.1, Lib.hid (hb1.trans (h.2.mono hb1.size))⟩
  obtain ⟨s, hs⟩ : ∃ s, validF V = s := ⟨_, rfl⟩
  rw [hs] at hV ⊢
  clear hs hT hn hb1
  dsimp only [Node.val] at hV ⊢
  cases s
  all_goals
    go_enter Tryz.func12, Tryz.ntmps12
    go_wp2_with (go_at_call 22; refine hV.mono ?_; clear hV; rintro e W3 ⟨rfl, H3⟩)
    go_ret
    exact ⟨ret_int rfl, H3.out⟩
set_option maxRecDepth 100000 in
set_option maxHeartbeats 2000000 in
theorem RSize_all (V : LT) (n₀ : Nat) (w : World) (hT : IsT n₀ w V) (hn : n₀ ≤ w.heap.size) :
    Calls Tryz.prog 6 #[V.node.val] w fun e w' => e = .returned (.tuple #[.int .i64 (sizeF V), .int .i64 (errF (validF V))]) ∧ Below w.heap.size w w' := by
  have hb1 : Below w.heap.size w (w.alloc (.cells #[.int .i64 V.node.k, .int .i64 V.node.n, .string V.node.s, .slice V.node.a V.node.len V.node.cap] 24)) := (Below.refl _ _).alloc (Nat.le_refl _) _
  have hq := World.alloc_heap_new w (.cells #[.int .i64 V.node.k, .int .i64 V.node.n, .string V.node.s, .slice V.node.a V.node.len V.node.cap] 24)
  have hV : Calls Tryz.prog 22 #[V.node.val] (w.alloc (.cells #[.int .i64 V.node.k, .int .i64 V.node.n, .string V.node.s, .slice V.node.a V.node.len V.node.cap] 24)) fun e w' => e = .returned (.bool (validF V)) ∧ Hid (Below w.heap.size w w') ∧ (w'.cell? ⟨w.heap.size, 0, none⟩ = some (.int .i64 V.node.k) ∧ w'.cell? ⟨w.heap.size, 1, none⟩ = some (.int .i64 V.node.n) ∧ w'.cell? ⟨w.heap.size, 2, none⟩ = some (.string V.node.s) ∧ w'.cell? ⟨w.heap.size, 3, none⟩ = some (.slice V.node.a V.node.len V.node.cap)) :=
    (Valid_any V n₀ _ (hT.bel (hb1.mono hn)) (by have := hb1.size; omega)).mono fun e W' h => ⟨h.1, Lib.hid (hb1.trans (h.2.mono hb1.size)), (cells4 ((h.2.block _ (Array.getElem?_eq_some_iff.1 hq).1).trans hq)).1⟩
  have hC : Hid (validF V = true → ∀ W, Below w.heap.size w W → Calls Tryz.prog 23 #[V.node.val] W fun e W' => e = .returned (.int .i64 V.cnt) ∧ Hid (Below w.heap.size w W')) := Lib.hid fun h W hW =>
    (count_any 6 V (by omega) (by simp only [validF, Bool.and_eq_true] at h; exact h.1) n₀ W (hT.bel (hW.mono hn)) (by have := hW.size; omega)).mono fun e W' h => ⟨h.1, Lib.hid (hW.trans (h.2.mono hW.size))⟩
  have hz := sizeF_valid V
  obtain ⟨s, hs⟩ : ∃ s, validF V = s := ⟨_, rfl⟩
  rw [hs] at hV hC hz ⊢
  clear hs hT hn hb1 hq
  rw [hz]
  clear hz
  dsimp only [Node.val] at hV hC ⊢
  cases s
  · rw [if_neg (by decide)]
    go_enter Tryz.func6, Tryz.ntmps6
    go_wp2_with (go_at_call 22; refine hV.mono ?_; clear hV; rintro e W3 ⟨rfl, H3, b0, b1, b2, b3⟩)
    go_ret2
    exact ⟨rfl, H3.out⟩
  · rw [if_pos rfl]
    have hC' := Lib.hid (hC.out rfl)
    clear hC
    go_enter Tryz.func6, Tryz.ntmps6
    go_wp2_with (first
      | (go_at_call 22; refine hV.mono ?_; clear hV; rintro e W3 ⟨rfl, H3, b0, b1, b2, b3⟩)
      | (go_at_call 23; refine (hC'.out _ H3.out).mono ?_; rintro e W4 ⟨rfl, H4⟩))
    go_ret2
    exact ⟨rfl, H4.out⟩
end Go.Proofs.YtofboalgbgipoaaGreatDoor
