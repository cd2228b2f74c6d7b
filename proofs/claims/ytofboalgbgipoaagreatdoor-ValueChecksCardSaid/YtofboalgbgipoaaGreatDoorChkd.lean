/- The least value of a type, whatever the type is: the program and the reference. -/
import Derived.Test.YtofboalgbgipoaaGreatDoorChkc
set_option linter.all false
namespace Go.Proofs.YtofboalgbgipoaaGreatDoor
open Go.RowKit Go.Shelf
attribute [local go_sem] Oper.semAt_some

/-- What Least answers. -/
def LsAll (T : YT) (w : World) (e : Ending) (w' : World) : Prop := ∃ V : LT, e = .returned (.tuple #[V.node.val, .int .i64 (errF (validY T))]) ∧ ((validY T = true ∧ LeastOf V T) ∨ (validY T = false ∧ V = zeroT)) ∧ IsT w'.heap.size w' V ∧ Below w.heap.size w w'
theorem zero_isT (n₀ : Nat) (W : World) : IsT n₀ W zeroT := .mk _ _ rfl (by simp [zeroN, maxLen]) (by simp [zeroN]) (fun i c h => by simp at h) (fun c h => by simp at h)
set_option maxRecDepth 100000 in
set_option maxHeartbeats 2000000 in
theorem PLeast_all (T : YT) (n₀ : Nat) (w : World) (hT : IsY n₀ w T) (hn : n₀ ≤ w.heap.size) :
    Calls Tryz.prog 7 #[T.node.val] w (LsAll T w) := by
  cases hv : validY T with
  | true =>
    refine (Least_ok T n₀ w hT hv hn).mono ?_
    rintro e w' ⟨V, he, h1, h2, h3⟩
    exact ⟨V, by rw [he, hv]; rfl, .inl ⟨hv, h1⟩, h2.isT (fun b h => h.2), h3⟩
  | false =>
    obtain ⟨W2, hW2⟩ : ∃ W2, (w.alloc (.cells #[.int .i64 T.node.k, .slice T.node.a T.node.len T.node.cap] 27)).alloc (.cells #[.int .i64 0, .int .i64 0, .string ByteArray.empty, .slice none 0 0] 24) = W2 := ⟨_, rfl⟩
    obtain ⟨hs2, hb2, typ2, res2⟩ := begins _ _ _ _ w W2 hW2
    have hR : Calls Tryz.prog 24 #[T.node.val] W2 fun e w' => e = .returned (.bool false) ∧ Hid (Below W2.heap.size W2 w' ∧ w'.heap[w.heap.size + 1]? = some (.cells #[.int .i64 0, .int .i64 0, .string ByteArray.empty, .slice none 0 0] 24 (0, 0))) ∧
        ((w'.cell? ⟨w.heap.size + 1, 0, none⟩ = some (.int .i64 0) ∧ w'.cell? ⟨w.heap.size + 1, 1, none⟩ = some (.int .i64 0) ∧ w'.cell? ⟨w.heap.size + 1, 2, none⟩ = some (.string ByteArray.empty) ∧ w'.cell? ⟨w.heap.size + 1, 3, none⟩ = some (.slice none 0 0)) ∧
        (w'.frozen? ⟨w.heap.size + 1, 0, none⟩ = false ∧ w'.frozen? ⟨w.heap.size + 1, 1, none⟩ = false ∧ w'.frozen? ⟨w.heap.size + 1, 2, none⟩ = false ∧ w'.frozen? ⟨w.heap.size + 1, 3, none⟩ = false)) := by
      have h := rightType_any T n₀ W2 (hT.bel (hb2.mono hn)) (hT.lens 1) (by have := hb2.size; omega)
      rw [hv] at h
      exact h.mono fun e w' h => ⟨h.1, Lib.hid ⟨h.2, (h.2.block _ (Array.getElem?_eq_some_iff.1 res2).1).trans res2⟩, cells4 ((h.2.block _ (Array.getElem?_eq_some_iff.1 res2).1).trans res2)⟩
    have HB := Lib.hid (And.intro hb2 hs2)
    have HV := Lib.hid hv
    dsimp only [TNode.val] at hR ⊢
    rw [← hW2] at hR
    have HW := Lib.hid hW2
    clear hT hn hb2 hs2 typ2 res2 hW2 hv
    go_enter Tryz.func7, Tryz.ntmps7
    go_wp2_with (go_at_call 24; refine hR.mono ?_; clear hR; rintro e W3 ⟨rfl, H3, ⟨c0, c1, c2, c3⟩, z0, z1, z2, z3⟩; rw [HW.out] at H3)
    obtain ⟨hb2, hs2⟩ := HB.out
    have hr4 := setAll4 (a' := .int .i64 0) (b' := .int .i64 0) (c' := .string ByteArray.empty) (d' := .slice none 0 0) H3.out.2
    refine ⟨rfl, .tuple #[Node.val zeroN, .int .i64 1], ?_, zeroT, by rw [HV.out]; rfl, .inr ⟨HV.out, rfl⟩, zero_isT _ _, below4 (hb2.trans (H3.out.1.mono hb2.size)) (by omega)⟩
    have he : (⟨#[]⟩ : ByteArray) = ByteArray.empty := rfl
    simp [results, Tryz.f7, go_sem, World.cell?, he, hr4, Node.val, zeroN]
set_option maxRecDepth 100000 in
set_option maxHeartbeats 2000000 in
theorem RLeast_all (T : YT) (n₀ : Nat) (w : World) (hT : IsY n₀ w T) (hn : n₀ ≤ w.heap.size) :
    Calls Tryz.prog 8 #[T.node.val] w (LsAll T w) := by
  obtain ⟨W2, hW2⟩ : ∃ W2, (w.alloc (.cells #[.int .i64 T.node.k, .slice T.node.a T.node.len T.node.cap] 27)).alloc (.cells #[.int .i64 0, .int .i64 0, .string ByteArray.empty, .slice none 0 0] 24) = W2 := ⟨_, rfl⟩
  obtain ⟨hs2, hb2, typ2, res2⟩ := begins _ _ _ _ w W2 hW2
  have hR : Calls Tryz.prog 26 #[T.node.val] W2 fun e w' => e = .returned (.bool (validY T)) ∧ Hid (Below W2.heap.size W2 w' ∧ w'.heap[w.heap.size + 1]? = some (.cells #[.int .i64 0, .int .i64 0, .string ByteArray.empty, .slice none 0 0] 24 (0, 0))) ∧
      ((w'.cell? ⟨w.heap.size + 1, 0, none⟩ = some (.int .i64 0) ∧ w'.cell? ⟨w.heap.size + 1, 1, none⟩ = some (.int .i64 0) ∧ w'.cell? ⟨w.heap.size + 1, 2, none⟩ = some (.string ByteArray.empty) ∧ w'.cell? ⟨w.heap.size + 1, 3, none⟩ = some (.slice none 0 0)) ∧
      (w'.frozen? ⟨w.heap.size + 1, 0, none⟩ = false ∧ w'.frozen? ⟨w.heap.size + 1, 1, none⟩ = false ∧ w'.frozen? ⟨w.heap.size + 1, 2, none⟩ = false ∧ w'.frozen? ⟨w.heap.size + 1, 3, none⟩ = false)) ∧ w'.cell? ⟨w.heap.size, 0, none⟩ = some (.int .i64 T.node.k) ∧ w'.cell? ⟨w.heap.size, 1, none⟩ = some (.slice T.node.a T.node.len T.node.cap) := by
    have h := RValidType_any T n₀ W2 (hT.bel (hb2.mono hn)) (by have := hb2.size; omega)
    exact h.mono fun e w' h => ⟨h.1, Lib.hid ⟨h.2, (h.2.block _ (Array.getElem?_eq_some_iff.1 res2).1).trans res2⟩, cells4 ((h.2.block _ (Array.getElem?_eq_some_iff.1 res2).1).trans res2), (cells2 ((h.2.block _ (Array.getElem?_eq_some_iff.1 typ2).1).trans typ2)).1⟩
  have hL : Hid (validY T = true → ∀ W, Below W2.heap.size W2 W → Calls Tryz.prog 27 #[T.node.val] W fun e w' => ∃ V : LT, e = .returned (.agg #[.int .i64 V.node.k, .int .i64 V.node.n, .string V.node.s, .slice V.node.a V.node.len V.node.cap]) ∧ Hid (LeastOf V T ∧ IsV (fun b => W2.heap.size ≤ b ∧ b < w'.heap.size) w' V ∧ Below W2.heap.size W2 w' ∧ w'.heap[w.heap.size + 1]? = some (.cells #[.int .i64 0, .int .i64 0, .string ByteArray.empty, .slice none 0 0] 24 (0, 0))) ∧
      ((w'.cell? ⟨w.heap.size + 1, 0, none⟩ = some (.int .i64 0) ∧ w'.cell? ⟨w.heap.size + 1, 1, none⟩ = some (.int .i64 0) ∧ w'.cell? ⟨w.heap.size + 1, 2, none⟩ = some (.string ByteArray.empty) ∧ w'.cell? ⟨w.heap.size + 1, 3, none⟩ = some (.slice none 0 0)) ∧
      (w'.frozen? ⟨w.heap.size + 1, 0, none⟩ = false ∧ w'.frozen? ⟨w.heap.size + 1, 1, none⟩ = false ∧ w'.frozen? ⟨w.heap.size + 1, 2, none⟩ = false ∧ w'.frozen? ⟨w.heap.size + 1, 3, none⟩ = false))) := Lib.hid fun hv W hW => by
    have hws := hW.size
    have hty : typedF 6 T = true := by simp only [validY, Bool.and_eq_true] at hv; exact hv.1
    refine (rleast_any 6 T hty n₀ W (hT.bel ((hb2.trans (hW.mono hb2.size)).mono hn)) (by have := hb2.size; omega)).mono ?_
    rintro e w' ⟨V, he, h1, h2, h3⟩
    have hb := hW.trans (h3.mono hws)
    have hr := (hb.block _ (Array.getElem?_eq_some_iff.1 res2).1).trans res2
    exact ⟨V, he, Lib.hid ⟨h1, h2.kept (fun b hb => ⟨by omega, hb.2⟩) (fun _ _ _ => rfl), hb, hr⟩, cells4 hr⟩
  have HB := Lib.hid (And.intro hb2 hs2)
  unfold LsAll
  obtain ⟨t, ht⟩ : ∃ t, validY T = t := ⟨_, rfl⟩
  rw [ht] at hR hL ⊢
  clear hT hn hb2 hs2 typ2 res2 ht
  dsimp only [TNode.val] at hR hL
  dsimp only [TNode.val]
  rw [← hW2] at hR
  have HW := Lib.hid hW2
  clear hW2
  cases t with
  | false =>
    clear hL
    go_enter Tryz.func8, Tryz.ntmps8
    go_wp2_with (go_at_call 26; refine hR.mono ?_; clear hR; rintro e W3 ⟨rfl, H3, ⟨⟨c0, c1, c2, c3⟩, z0, z1, z2, z3⟩, a0, a1⟩; rw [HW.out] at H3)
    obtain ⟨hb2, hs2⟩ := HB.out
    have hr4 := setAll4 (a' := .int .i64 0) (b' := .int .i64 0) (c' := .string ByteArray.empty) (d' := .slice none 0 0) H3.out.2
    refine ⟨rfl, .tuple #[Node.val zeroN, .int .i64 1], ?_, zeroT, rfl, .inr ⟨by trivial, rfl⟩, zero_isT _ _, below4 (hb2.trans (H3.out.1.mono hb2.size)) (by omega)⟩
    have he : (⟨#[]⟩ : ByteArray) = ByteArray.empty := rfl
    simp [results, Tryz.f8, go_sem, World.cell?, he, hr4, Node.val, zeroN]
  | true =>
    have hL' := Lib.hid (hL.out rfl)
    clear hL
    go_enter Tryz.func8, Tryz.ntmps8
    go_wp2_with (first
      | (go_at_call 26; refine hR.mono ?_; clear hR; rintro e W3 ⟨rfl, H3, ⟨⟨c0, c1, c2, c3⟩, z0, z1, z2, z3⟩, a0, a1⟩; rw [HW.out] at H3; clear c0 c1 c2 c3 z0 z1 z2 z3)
      | (go_at_call 27; refine (hL'.out _ H3.out.1).mono ?_; rintro e W4 ⟨⟨⟨vk, vn, vs, va, vl, vc⟩, vkids⟩, rfl, H4, ⟨c0, c1, c2, c3⟩, z0, z1, z2, z3⟩; dsimp only [LT.node]))
    obtain ⟨h1, h2, h3, h4⟩ := H4.out
    obtain ⟨hb2, hs2⟩ := HB.out
    have hr4 := setAll4 (a' := .int .i64 vk) (b' := .int .i64 vn) (c' := .string vs) (d' := .slice va vl vc) h4
    refine ⟨rfl, .tuple #[Node.val ⟨vk, vn, vs, va, vl, vc⟩, .int .i64 0], ?_, .mk ⟨vk, vn, vs, va, vl, vc⟩ vkids, rfl, .inl ⟨by trivial, h1⟩, ?_, below4 (hb2.trans (h3.mono hb2.size)) (by omega)⟩
    · simp [results, Tryz.f8, go_sem, World.cell?, hr4, Node.val]
    · exact IsV.isT (S := fun b => W2.heap.size ≤ b ∧ b < W4.heap.size) (fun b hb => by rw [size4]; exact hb.2) (h2.kept (fun b hb => hb) (fun b hb hl => heap4 (by omega)))
end Go.Proofs.YtofboalgbgipoaaGreatDoor
