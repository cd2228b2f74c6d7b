/- Is a value of a type, whatever both are: the program and the reference. -/
import Derived.Test.YtofboalgbgipoaaGreatDoorChka
set_option linter.all false
namespace Go.Proofs.YtofboalgbgipoaaGreatDoor
open Go.RowKit Go.Shelf
attribute [local go_sem] Oper.semAt_some

/-- Is a value of a type? -/
def isF (V : LT) (T : YT) : Bool := validF V && (validY T && matchF V T)
set_option maxRecDepth 100000 in
set_option maxHeartbeats 4000000 in
theorem PIs_all (V : LT) (T : YT) (hS : Sized V) (n₀ : Nat) (w : World) (hV : IsT n₀ w V) (hT : IsY n₀ w T) (hn : n₀ ≤ w.heap.size) :
    Calls Tryz.prog 13 #[V.node.val, T.node.val] w fun e w' => e = .returned (.bool (isF V T)) ∧ Below w.heap.size w w' := by
  obtain ⟨W2, hW2⟩ : ∃ W2, (w.alloc (.cells #[.int .i64 V.node.k, .int .i64 V.node.n, .string V.node.s, .slice V.node.a V.node.len V.node.cap] 24)).alloc (.cells #[.int .i64 T.node.k, .slice T.node.a T.node.len T.node.cap] 27) = W2 := ⟨_, rfl⟩
  have hb2 : Below w.heap.size w W2 := by rw [← hW2]; exact ((Below.refl _ _).alloc (Nat.le_refl _) _).alloc (by simp) _
  obtain ⟨hx2, hy2⟩ := box2' w #[.int .i64 V.node.k, .int .i64 V.node.n, .string V.node.s, .slice V.node.a V.node.len V.node.cap] #[.int .i64 T.node.k, .slice T.node.a T.node.len T.node.cap] 24 27
  rw [hW2] at hx2 hy2
  have fc : ∀ W, Below W2.heap.size W2 W → (W.cell? ⟨w.heap.size, 0, none⟩ = some (.int .i64 V.node.k) ∧ W.cell? ⟨w.heap.size, 1, none⟩ = some (.int .i64 V.node.n) ∧ W.cell? ⟨w.heap.size, 2, none⟩ = some (.string V.node.s) ∧ W.cell? ⟨w.heap.size, 3, none⟩ = some (.slice V.node.a V.node.len V.node.cap)) ∧
      W.cell? ⟨w.heap.size + 1, 0, none⟩ = some (.int .i64 T.node.k) ∧ W.cell? ⟨w.heap.size + 1, 1, none⟩ = some (.slice T.node.a T.node.len T.node.cap) := fun W hW =>
    ⟨(cells4 ((hW.block _ (Array.getElem?_eq_some_iff.1 hx2).1).trans hx2)).1, (cells2 ((hW.block _ (Array.getElem?_eq_some_iff.1 hy2).1).trans hy2)).1⟩
  have FC := Lib.hid fc
  have hC : Calls Tryz.prog 11 #[V.node.val] W2 fun e w' => e = .returned (.int .i64 (errF (validF V))) ∧ Hid (Below W2.heap.size W2 w') :=
    (PCheck_all V hS n₀ W2 (hV.bel (hb2.mono hn)) (by have := hb2.size; omega)).mono fun e w' h => ⟨h.1, Lib.hid h.2⟩
  have hR : Hid (∀ W, Below W2.heap.size W2 W → Calls Tryz.prog 24 #[T.node.val] W fun e w' => e = .returned (.bool (validY T)) ∧ Hid (Below W2.heap.size W2 w')) := Lib.hid fun W hW =>
    (rightType_any T n₀ W (hT.bel ((hb2.trans (hW.mono hb2.size)).mono hn)) (hT.lens 1) (by have := hW.size; have := hb2.size; omega)).mono fun e w' h => ⟨h.1, Lib.hid (hW.trans (h.2.mono hW.size))⟩
  have hM : Hid (validF V = true → validY T = true → ∀ W, Below W2.heap.size W2 W → Calls Tryz.prog 28 #[V.node.val, T.node.val] W fun e w' => e = .returned (.bool (matchF V T)) ∧ Hid (Below W2.heap.size W2 w')) := Lib.hid fun hs ht W hW => by
    have hty : typedF 6 T = true := by simp only [validY, Bool.and_eq_true] at ht; exact ht.1
    exact (matches_any 6 T hty V (validF_ok hs).1 n₀ W (hV.bel ((hb2.trans (hW.mono hb2.size)).mono hn)) (hT.bel ((hb2.trans (hW.mono hb2.size)).mono hn)) (by have := hW.size; have := hb2.size; omega)).mono fun e w' h => ⟨h.1, Lib.hid (hW.trans (h.2.mono hW.size))⟩
  unfold isF
  obtain ⟨s, hs⟩ : ∃ s, validF V = s := ⟨_, rfl⟩
  obtain ⟨t, ht⟩ : ∃ t, validY T = t := ⟨_, rfl⟩
  obtain ⟨r, hr⟩ : ∃ r, matchF V T = r := ⟨_, rfl⟩
  rw [hs] at hC hM
  rw [ht] at hR hM
  rw [hr] at hM
  rw [hs, ht, hr]
  dsimp only [Node.val, TNode.val] at hC hR hM
  have HB := Lib.hid hb2
  clear hV hT hn hb2 hx2 hy2 fc hS hs ht hr
  dsimp only [Node.val, TNode.val]
  rw [← hW2] at hC
  have HW := Lib.hid hW2
  clear hW2
  cases s with
  | false =>
    clear hR hM
    go_enter Tryz.func13, Tryz.ntmps13
    go_wp2_with (go_at_call 11; refine hC.mono ?_; clear hC; rintro e W3 ⟨rfl, H3⟩; rw [HW.out] at H3; simp only [errF, Bool.false_eq_true, if_false])
    go_ret
    exact ⟨ret_bool rfl, HB.out.trans (H3.out.mono HB.out.size)⟩
  | true =>
    cases t with
    | false =>
      clear hM
      go_enter Tryz.func13, Tryz.ntmps13
      go_wp2_with (first
        | (go_at_call 11; refine hC.mono ?_; clear hC; rintro e W3 ⟨rfl, H3⟩; rw [HW.out] at H3; obtain ⟨⟨a0, a1, a2, a3⟩, b0, b1⟩ := FC.out _ H3.out; simp only [errF, if_true])
        | (go_at_call 24; refine (hR.out _ H3.out).mono ?_; rintro e W4 ⟨rfl, H4⟩))
      go_ret
      exact ⟨ret_bool rfl, HB.out.trans (H4.out.mono HB.out.size)⟩
    | true =>
      have hM' := Lib.hid (hM.out rfl rfl)
      clear hM
      go_enter Tryz.func13, Tryz.ntmps13
      go_wp2_with (first
        | (go_at_call 11; refine hC.mono ?_; clear hC; rintro e W3 ⟨rfl, H3⟩; rw [HW.out] at H3; obtain ⟨⟨a0, a1, a2, a3⟩, b0, b1⟩ := FC.out _ H3.out; simp only [errF, if_true])
        | (go_at_call 24; refine (hR.out _ H3.out).mono ?_; rintro e W4 ⟨rfl, H4⟩; obtain ⟨⟨c0, c1, c2, c3⟩, d0, d1⟩ := FC.out _ H4.out)
        | (go_at_call 28; refine (hM'.out _ H4.out).mono ?_; rintro e W5 ⟨rfl, H5⟩))
      go_ret
      exact ⟨ret_bool (by simp), HB.out.trans (H5.out.mono HB.out.size)⟩
set_option maxRecDepth 100000 in
set_option maxHeartbeats 4000000 in
theorem RIs_all (V : LT) (T : YT) (n₀ : Nat) (w : World) (hV : IsT n₀ w V) (hT : IsY n₀ w T) (hn : n₀ ≤ w.heap.size) :
    Calls Tryz.prog 14 #[V.node.val, T.node.val] w fun e w' => e = .returned (.bool (isF V T)) ∧ Below w.heap.size w w' := by
  obtain ⟨W2, hW2⟩ : ∃ W2, (w.alloc (.cells #[.int .i64 V.node.k, .int .i64 V.node.n, .string V.node.s, .slice V.node.a V.node.len V.node.cap] 24)).alloc (.cells #[.int .i64 T.node.k, .slice T.node.a T.node.len T.node.cap] 27) = W2 := ⟨_, rfl⟩
  have hb2 : Below w.heap.size w W2 := by rw [← hW2]; exact ((Below.refl _ _).alloc (Nat.le_refl _) _).alloc (by simp) _
  obtain ⟨hx2, hy2⟩ := box2' w #[.int .i64 V.node.k, .int .i64 V.node.n, .string V.node.s, .slice V.node.a V.node.len V.node.cap] #[.int .i64 T.node.k, .slice T.node.a T.node.len T.node.cap] 24 27
  rw [hW2] at hx2 hy2
  have fc : ∀ W, Below W2.heap.size W2 W → (W.cell? ⟨w.heap.size, 0, none⟩ = some (.int .i64 V.node.k) ∧ W.cell? ⟨w.heap.size, 1, none⟩ = some (.int .i64 V.node.n) ∧ W.cell? ⟨w.heap.size, 2, none⟩ = some (.string V.node.s) ∧ W.cell? ⟨w.heap.size, 3, none⟩ = some (.slice V.node.a V.node.len V.node.cap)) ∧
      W.cell? ⟨w.heap.size + 1, 0, none⟩ = some (.int .i64 T.node.k) ∧ W.cell? ⟨w.heap.size + 1, 1, none⟩ = some (.slice T.node.a T.node.len T.node.cap) := fun W hW =>
    ⟨(cells4 ((hW.block _ (Array.getElem?_eq_some_iff.1 hx2).1).trans hx2)).1, (cells2 ((hW.block _ (Array.getElem?_eq_some_iff.1 hy2).1).trans hy2)).1⟩
  have FC := Lib.hid fc
  have hC : Calls Tryz.prog 22 #[V.node.val] W2 fun e w' => e = .returned (.bool (validF V)) ∧ Hid (Below W2.heap.size W2 w') :=
    (Valid_any V n₀ W2 (hV.bel (hb2.mono hn)) (by have := hb2.size; omega)).mono fun e w' h => ⟨h.1, Lib.hid h.2⟩
  have hR : Hid (∀ W, Below W2.heap.size W2 W → Calls Tryz.prog 26 #[T.node.val] W fun e w' => e = .returned (.bool (validY T)) ∧ Hid (Below W2.heap.size W2 w')) := Lib.hid fun W hW =>
    (RValidType_any T n₀ W (hT.bel ((hb2.trans (hW.mono hb2.size)).mono hn)) (by have := hW.size; have := hb2.size; omega)).mono fun e w' h => ⟨h.1, Lib.hid (hW.trans (h.2.mono hW.size))⟩
  have hM : Hid (validF V = true → validY T = true → ∀ W, Below W2.heap.size W2 W → Calls Tryz.prog 29 #[V.node.val, T.node.val] W fun e w' => e = .returned (.bool (matchF V T)) ∧ Hid (Below W2.heap.size W2 w')) := Lib.hid fun hs ht W hW => by
    have hty : typedF 6 T = true := by simp only [validY, Bool.and_eq_true] at ht; exact ht.1
    exact (fits_any 6 T hty V (validF_ok hs).1 n₀ W (hV.bel ((hb2.trans (hW.mono hb2.size)).mono hn)) (hT.bel ((hb2.trans (hW.mono hb2.size)).mono hn)) (by have := hW.size; have := hb2.size; omega)).mono fun e w' h => ⟨h.1, Lib.hid (hW.trans (h.2.mono hW.size))⟩
  unfold isF
  obtain ⟨s, hs⟩ : ∃ s, validF V = s := ⟨_, rfl⟩
  obtain ⟨t, ht⟩ : ∃ t, validY T = t := ⟨_, rfl⟩
  obtain ⟨r, hr⟩ : ∃ r, matchF V T = r := ⟨_, rfl⟩
  rw [hs] at hC hM
  rw [ht] at hR hM
  rw [hr] at hM
  rw [hs, ht, hr]
  dsimp only [Node.val, TNode.val] at hC hR hM
  have HB := Lib.hid hb2
  clear hV hT hn hb2 hx2 hy2 fc hs ht hr
  dsimp only [Node.val, TNode.val]
  rw [← hW2] at hC
  have HW := Lib.hid hW2
  clear hW2
  cases s with
  | false =>
    clear hR hM
    go_enter Tryz.func14, Tryz.ntmps14
    go_wp2_with (go_at_call 22; refine hC.mono ?_; clear hC; rintro e W3 ⟨rfl, H3⟩; rw [HW.out] at H3)
    go_ret
    exact ⟨ret_bool rfl, HB.out.trans (H3.out.mono HB.out.size)⟩
  | true =>
    cases t with
    | false =>
      clear hM
      go_enter Tryz.func14, Tryz.ntmps14
      go_wp2_with (first
        | (go_at_call 22; refine hC.mono ?_; clear hC; rintro e W3 ⟨rfl, H3⟩; rw [HW.out] at H3; obtain ⟨⟨a0, a1, a2, a3⟩, b0, b1⟩ := FC.out _ H3.out)
        | (go_at_call 26; refine (hR.out _ H3.out).mono ?_; rintro e W4 ⟨rfl, H4⟩))
      go_ret
      exact ⟨ret_bool rfl, HB.out.trans (H4.out.mono HB.out.size)⟩
    | true =>
      have hM' := Lib.hid (hM.out rfl rfl)
      clear hM
      go_enter Tryz.func14, Tryz.ntmps14
      go_wp2_with (first
        | (go_at_call 22; refine hC.mono ?_; clear hC; rintro e W3 ⟨rfl, H3⟩; rw [HW.out] at H3; obtain ⟨⟨a0, a1, a2, a3⟩, b0, b1⟩ := FC.out _ H3.out)
        | (go_at_call 26; refine (hR.out _ H3.out).mono ?_; rintro e W4 ⟨rfl, H4⟩; obtain ⟨⟨c0, c1, c2, c3⟩, d0, d1⟩ := FC.out _ H4.out)
        | (go_at_call 29; refine (hM'.out _ H4.out).mono ?_; rintro e W5 ⟨rfl, H5⟩))
      go_ret
      exact ⟨ret_bool (by simp), HB.out.trans (H5.out.mono HB.out.size)⟩
end Go.Proofs.YtofboalgbgipoaaGreatDoor
