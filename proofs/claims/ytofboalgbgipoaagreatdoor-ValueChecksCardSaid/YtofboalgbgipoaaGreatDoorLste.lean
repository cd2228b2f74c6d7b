/- Is a value of a type, and which is the least one: as the program answers. -/
import Derived.Test.YtofboalgbgipoaaGreatDoorLstd
set_option linter.all false
namespace Go.Proofs.YtofboalgbgipoaaGreatDoor
open Go.RowKit Go.Shelf
attribute [local go_sem] Oper.semAt_some

theorem validY_lens {T : YT} (h : validY T = true) : ∀ x ∈ T.pre 1, x.2.len ≤ maxLen := by
  intro x hx
  simp only [validY, Bool.and_eq_true] at h
  have h1 := List.all_eq_true.1 ((typedF_nodes 6 T 1 (by omega)).2 h.1) x hx
  simp only [tokAt, Bool.and_eq_true] at h1
  have := tokNode_small h1.2
  unfold maxLen
  omega
set_option maxRecDepth 100000 in
set_option maxHeartbeats 2000000 in
theorem Is_true (V : LT) (T : YT) (n₀ : Nat) (w : World) (hV : IsT n₀ w V) (hO : OkV V) (hh : V.ht ≤ 6) (hc : V.cnt ≤ 60) (hT : IsY n₀ w T) (hv : validY T = true) (hm : matchF V T = true) (hn : n₀ ≤ w.heap.size) :
    Calls Tryz.prog 13 #[V.node.val, T.node.val] w fun e w' => e = .returned (.bool true) ∧ Below w.heap.size w w' := by
  have hs := hO.size hh hc
  have hp := V.cnt_pos
  have hty : typedF 6 T = true := by simp only [validY, Bool.and_eq_true] at hv; exact hv.1
  obtain ⟨W2, hW2⟩ : ∃ W2, (w.alloc (.cells #[.int .i64 V.node.k, .int .i64 V.node.n, .string V.node.s, .slice V.node.a V.node.len V.node.cap] 24)).alloc (.cells #[.int .i64 T.node.k, .slice T.node.a T.node.len T.node.cap] 27) = W2 := ⟨_, rfl⟩
  have hb2 : Below w.heap.size w W2 := by rw [← hW2]; exact ((Below.refl _ _).alloc (Nat.le_refl _) _).alloc (by simp) _
  obtain ⟨hx2, hy2⟩ := box2' w #[.int .i64 V.node.k, .int .i64 V.node.n, .string V.node.s, .slice V.node.a V.node.len V.node.cap] #[.int .i64 T.node.k, .slice T.node.a T.node.len T.node.cap] 24 27
  rw [hW2] at hx2 hy2
  have fc : ∀ W, Below W2.heap.size W2 W → (W.cell? ⟨w.heap.size, 0, none⟩ = some (.int .i64 V.node.k) ∧ W.cell? ⟨w.heap.size, 1, none⟩ = some (.int .i64 V.node.n) ∧ W.cell? ⟨w.heap.size, 2, none⟩ = some (.string V.node.s) ∧ W.cell? ⟨w.heap.size, 3, none⟩ = some (.slice V.node.a V.node.len V.node.cap)) ∧
      W.cell? ⟨w.heap.size + 1, 0, none⟩ = some (.int .i64 T.node.k) ∧ W.cell? ⟨w.heap.size + 1, 1, none⟩ = some (.slice T.node.a T.node.len T.node.cap) := fun W hW =>
    ⟨(cells4 ((hW.block _ (Array.getElem?_eq_some_iff.1 hx2).1).trans hx2)).1, (cells2 ((hW.block _ (Array.getElem?_eq_some_iff.1 hy2).1).trans hy2)).1⟩
  have FC := Lib.hid fc
  have hC : Calls Tryz.prog 11 #[V.node.val] W2 fun e w' => e = .returned (.int .i64 0) ∧ Hid (Below W2.heap.size W2 w') := by
    have h := Check_ok V hO (by omega) W2 ((hV.bel (hb2.mono hn)).more (by have := hb2.size; omega))
    rw [if_neg (by rw [hs]; omega)] at h
    exact h.mono fun e w' h => ⟨h.1, Lib.hid h.2⟩
  have hR : Hid (∀ W, Below W2.heap.size W2 W → Calls Tryz.prog 24 #[T.node.val] W fun e w' => e = .returned (.bool true) ∧ Hid (Below W2.heap.size W2 w')) := Lib.hid fun W hW => by
    have h := rightType_any T n₀ W (hT.bel ((hb2.trans (hW.mono hb2.size)).mono hn)) (validY_lens hv) (by have := hW.size; have := hb2.size; omega)
    rw [hv] at h
    exact h.mono fun e w' h => ⟨h.1, Lib.hid (hW.trans (h.2.mono hW.size))⟩
  have hM : Hid (∀ W, Below W2.heap.size W2 W → Calls Tryz.prog 28 #[V.node.val, T.node.val] W fun e w' => e = .returned (.bool true) ∧ Hid (Below W2.heap.size W2 w')) := Lib.hid fun W hW => by
    have h := matches_any 6 T hty V hO n₀ W (hV.bel ((hb2.trans (hW.mono hb2.size)).mono hn)) (hT.bel ((hb2.trans (hW.mono hb2.size)).mono hn)) (by have := hW.size; have := hb2.size; omega)
    rw [hm] at h
    exact h.mono fun e w' h => ⟨h.1, Lib.hid (hW.trans (h.2.mono hW.size))⟩
  dsimp only [Node.val, TNode.val] at hC hR hM
  have HB := Lib.hid hb2
  clear hV hO hh hc hT hv hm hn hs hp hty hb2 hx2 hy2 fc
  dsimp only [Node.val, TNode.val]
  rw [← hW2] at hC
  have HW := Lib.hid hW2
  clear hW2
  go_enter Tryz.func13, Tryz.ntmps13
  go_wp2_with (first
    | (go_at_call 11; refine hC.mono ?_; clear hC; rintro e W3 ⟨rfl, H3⟩; rw [HW.out] at H3; obtain ⟨⟨a0, a1, a2, a3⟩, b0, b1⟩ := FC.out _ H3.out)
    | (go_at_call 24; refine (hR.out _ H3.out).mono ?_; rintro e W4 ⟨rfl, H4⟩; obtain ⟨⟨c0, c1, c2, c3⟩, d0, d1⟩ := FC.out _ H4.out)
    | (go_at_call 28; refine (hM.out _ H4.out).mono ?_; rintro e W5 ⟨rfl, H5⟩))
  go_ret
  exact ⟨rfl, HB.out.trans (H5.out.mono HB.out.size)⟩
set_option maxRecDepth 100000 in
set_option maxHeartbeats 2000000 in
theorem Least_ok (T : YT) (n₀ : Nat) (w : World) (hT : IsY n₀ w T) (hv : validY T = true) (hn : n₀ ≤ w.heap.size) :
    Calls Tryz.prog 7 #[T.node.val] w fun e w' => ∃ V : LT, e = .returned (.tuple #[V.node.val, .int .i64 0]) ∧ LeastOf V T ∧ IsV (fun b => w.heap.size ≤ b ∧ b < w'.heap.size) w' V ∧ Below w.heap.size w w' := by
  have hty : typedF 6 T = true := by simp only [validY, Bool.and_eq_true] at hv; exact hv.1
  obtain ⟨W2, hW2⟩ : ∃ W2, (w.alloc (.cells #[.int .i64 T.node.k, .slice T.node.a T.node.len T.node.cap] 27)).alloc (.cells #[.int .i64 0, .int .i64 0, .string ByteArray.empty, .slice none 0 0] 24) = W2 := ⟨_, rfl⟩
  obtain ⟨hs2, hb2, typ2, res2⟩ := begins _ _ _ _ w W2 hW2
  have hR : Calls Tryz.prog 24 #[T.node.val] W2 fun e w' => e = .returned (.bool true) ∧ Hid (Below W2.heap.size W2 w') ∧ w'.cell? ⟨w.heap.size, 0, none⟩ = some (.int .i64 T.node.k) ∧ w'.cell? ⟨w.heap.size, 1, none⟩ = some (.slice T.node.a T.node.len T.node.cap) := by
    have h := rightType_any T n₀ W2 (hT.bel (hb2.mono hn)) (validY_lens hv) (by have := hb2.size; omega)
    rw [hv] at h
    exact h.mono fun e w' h => ⟨h.1, Lib.hid h.2, (cells2 ((h.2.block _ (Array.getElem?_eq_some_iff.1 typ2).1).trans typ2)).1⟩
  have hL : Hid (∀ W, Below W2.heap.size W2 W → Calls Tryz.prog 25 #[T.node.val] W fun e w' => ∃ V : LT, e = .returned (.agg #[.int .i64 V.node.k, .int .i64 V.node.n, .string V.node.s, .slice V.node.a V.node.len V.node.cap]) ∧ Hid (LeastOf V T ∧ IsV (fun b => W2.heap.size ≤ b ∧ b < w'.heap.size) w' V ∧ Below W2.heap.size W2 w' ∧ w'.heap[w.heap.size + 1]? = some (.cells #[.int .i64 0, .int .i64 0, .string ByteArray.empty, .slice none 0 0] 24 (0, 0))) ∧
      ((w'.cell? ⟨w.heap.size + 1, 0, none⟩ = some (.int .i64 0) ∧ w'.cell? ⟨w.heap.size + 1, 1, none⟩ = some (.int .i64 0) ∧ w'.cell? ⟨w.heap.size + 1, 2, none⟩ = some (.string ByteArray.empty) ∧ w'.cell? ⟨w.heap.size + 1, 3, none⟩ = some (.slice none 0 0)) ∧
      (w'.frozen? ⟨w.heap.size + 1, 0, none⟩ = false ∧ w'.frozen? ⟨w.heap.size + 1, 1, none⟩ = false ∧ w'.frozen? ⟨w.heap.size + 1, 2, none⟩ = false ∧ w'.frozen? ⟨w.heap.size + 1, 3, none⟩ = false))) := Lib.hid fun W hW => by
    have hws := hW.size
    refine (least_any 6 T hty n₀ W (hT.bel ((hb2.trans (hW.mono hb2.size)).mono hn)) (by have := hb2.size; omega)).mono ?_
    rintro e w' ⟨V, he, h1, h2, h3⟩
    have hb := hW.trans (h3.mono hws)
    have hr := (hb.block _ (Array.getElem?_eq_some_iff.1 res2).1).trans res2
    exact ⟨V, he, Lib.hid ⟨h1, h2.kept (fun b hb => ⟨by omega, hb.2⟩) (fun _ _ _ => rfl), hb, hr⟩, cells4 hr⟩
  dsimp only [TNode.val] at hR hL
  have HB := Lib.hid (And.intro hb2 hs2)
  clear hT hv hn hty hb2 hs2 typ2 res2
  dsimp only [TNode.val]
  rw [← hW2] at hR
  have HW := Lib.hid hW2
  clear hW2
  go_enter Tryz.func7, Tryz.ntmps7
  go_wp2_with (first
    | (go_at_call 24; refine hR.mono ?_; clear hR; rintro e W3 ⟨rfl, H3, a0, a1⟩; rw [HW.out] at H3)
    | (go_at_call 25; refine (hL.out _ H3.out).mono ?_; rintro e W4 ⟨⟨⟨vk, vn, vs, va, vl, vc⟩, vkids⟩, rfl, H4, ⟨c0, c1, c2, c3⟩, z0, z1, z2, z3⟩; dsimp only [LT.node]))
  obtain ⟨h1, h2, h3, h4⟩ := H4.out
  obtain ⟨hb2, hs2⟩ := HB.out
  have hr4 := setAll4 (a' := .int .i64 vk) (b' := .int .i64 vn) (c' := .string vs) (d' := .slice va vl vc) h4
  refine ⟨rfl, .tuple #[Node.val ⟨vk, vn, vs, va, vl, vc⟩, .int .i64 0], ?_, .mk ⟨vk, vn, vs, va, vl, vc⟩ vkids, rfl, h1, h2.kept (fun b hb => ⟨by omega, by rw [size4]; omega⟩) (fun b hb hl => heap4 (by omega)), below4 (hb2.trans (h3.mono hb2.size)) (by omega)⟩
  simp [results, Tryz.f7, go_sem, World.cell?, hr4, Node.val]
end Go.Proofs.YtofboalgbgipoaaGreatDoor
