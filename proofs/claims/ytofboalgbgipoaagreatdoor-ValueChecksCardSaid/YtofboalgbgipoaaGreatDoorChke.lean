/- Type, Check, Is, Size and Least answer what the reference does: the statement's own walk. -/
import Derived.Test.YtofboalgbgipoaaGreatDoorChkd
import Derived.Test.YtofboalgbgipoaaGreatDoorValt
set_option linter.all false
namespace Go.Proofs.YtofboalgbgipoaaGreatDoor
open Go.RowKit Go.Shelf
attribute [local go_sem] Oper.semAt_some

theorem least_same {A B : LT} {T : YT} (h : (validY T = true ∧ LeastOf A T) ∨ (validY T = false ∧ A = zeroT)) (h' : (validY T = true ∧ LeastOf B T) ∨ (validY T = false ∧ B = zeroT)) : sameF A B = true := by
  rcases h with ⟨h1, h2⟩ | ⟨h1, h2⟩
  · rcases h' with ⟨h3, h4⟩ | ⟨h3, h4⟩
    · exact h2.same _ h4
    · rw [h1] at h3; cases h3
  · rcases h' with ⟨h3, h4⟩ | ⟨h3, h4⟩
    · rw [h1] at h3; cases h3
    · subst h2; subst h4; simp [sameF, sameL, zeroT]
set_option maxRecDepth 100000 in
set_option maxHeartbeats 4000000 in
theorem Checks_any (V : LT) (T : YT) (w : World) (hTV : IsT w.heap.size w V) (hSV : Sized V) (hTT : IsY w.heap.size w T)
    (hv : ∀ W, Below w.heap.size w W → Calls Tryz.prog 16 #[] W fun e W' => e = .returned (.bool true) ∧ Below W.heap.size W W') :
    Calls Tryz.prog 3 #[V.node.val, T.node.val] w fun e w' => e = .returned (.bool true) ∧ Below w.heap.size w w' := by
  obtain ⟨W2, hW2⟩ : ∃ W2, (w.alloc (.cells #[.int .i64 V.node.k, .int .i64 V.node.n, .string V.node.s, .slice V.node.a V.node.len V.node.cap] 24)).alloc (.cells #[.int .i64 T.node.k, .slice T.node.a T.node.len T.node.cap] 27) = W2 := ⟨_, rfl⟩
  have hb2 : Below w.heap.size w W2 := by rw [← hW2]; exact ((Below.refl _ _).alloc (Nat.le_refl _) _).alloc (by simp) _
  obtain ⟨hx2, hy2⟩ := box2' w #[.int .i64 V.node.k, .int .i64 V.node.n, .string V.node.s, .slice V.node.a V.node.len V.node.cap] #[.int .i64 T.node.k, .slice T.node.a T.node.len T.node.cap] 24 27
  rw [hW2] at hx2 hy2
  have FC : Hid (∀ W, Below W2.heap.size W2 W → (W.cell? ⟨w.heap.size, 0, none⟩ = some (.int .i64 V.node.k) ∧ W.cell? ⟨w.heap.size, 1, none⟩ = some (.int .i64 V.node.n) ∧ W.cell? ⟨w.heap.size, 2, none⟩ = some (.string V.node.s) ∧ W.cell? ⟨w.heap.size, 3, none⟩ = some (.slice V.node.a V.node.len V.node.cap)) ∧
      W.cell? ⟨w.heap.size + 1, 0, none⟩ = some (.int .i64 T.node.k) ∧ W.cell? ⟨w.heap.size + 1, 1, none⟩ = some (.slice T.node.a T.node.len T.node.cap)) := Lib.hid fun W hW =>
    ⟨(cells4 ((hW.block _ (Array.getElem?_eq_some_iff.1 hx2).1).trans hx2)).1, (cells2 ((hW.block _ (Array.getElem?_eq_some_iff.1 hy2).1).trans hy2)).1⟩
  have hbw : ∀ W, Below W2.heap.size W2 W → Below w.heap.size w W := fun W hW => hb2.trans (hW.mono hb2.size)
  have C1 : Hid (∀ W, Below W2.heap.size W2 W → Calls Tryz.prog 5 #[V.node.val] W fun e w' => e = .returned (.tuple #[.int .i64 (sizeF V), .int .i64 (errF (validF V))]) ∧ Hid (Below W2.heap.size W2 w')) := Lib.hid fun W hW =>
    (PSize_all V hSV w.heap.size W (hTV.bel (hbw W hW)) (hbw W hW).size).mono fun e w' h => ⟨h.1, Lib.hid (hW.trans (h.2.mono hW.size))⟩
  have C2 : Hid (∀ W, Below W2.heap.size W2 W → Calls Tryz.prog 6 #[V.node.val] W fun e w' => e = .returned (.tuple #[.int .i64 (sizeF V), .int .i64 (errF (validF V))]) ∧ Hid (Below W2.heap.size W2 w')) := Lib.hid fun W hW =>
    (RSize_all V w.heap.size W (hTV.bel (hbw W hW)) (hbw W hW).size).mono fun e w' h => ⟨h.1, Lib.hid (hW.trans (h.2.mono hW.size))⟩
  have ls : ∀ {W : World} {e : Ending} {w' : World}, Below W2.heap.size W2 W → LsAll T W e w' → ∃ X : LT, e = .returned (.tuple #[.agg #[.int .i64 X.node.k, .int .i64 X.node.n, .string X.node.s, .slice X.node.a X.node.len X.node.cap], .int .i64 (errF (validY T))]) ∧ Hid (((validY T = true ∧ LeastOf X T) ∨ (validY T = false ∧ X = zeroT)) ∧ IsT w'.heap.size w' X ∧ Below W2.heap.size W2 w' ∧ Below W.heap.size W w') := by
    rintro W e w' hW ⟨X, he, h1, h2, h3⟩
    exact ⟨X, he, Lib.hid ⟨h1, h2, hW.trans (h3.mono hW.size), h3⟩⟩
  have C3 : Hid (∀ W, Below W2.heap.size W2 W → Calls Tryz.prog 7 #[T.node.val] W fun e w' => ∃ X : LT, e = .returned (.tuple #[.agg #[.int .i64 X.node.k, .int .i64 X.node.n, .string X.node.s, .slice X.node.a X.node.len X.node.cap], .int .i64 (errF (validY T))]) ∧ Hid (((validY T = true ∧ LeastOf X T) ∨ (validY T = false ∧ X = zeroT)) ∧ IsT w'.heap.size w' X ∧ Below W2.heap.size W2 w' ∧ Below W.heap.size W w')) := Lib.hid fun W hW =>
    (PLeast_all T w.heap.size W (hTT.bel (hbw W hW)) (hbw W hW).size).mono fun e w' h => ls hW h
  have C4 : Hid (∀ W, Below W2.heap.size W2 W → Calls Tryz.prog 8 #[T.node.val] W fun e w' => ∃ X : LT, e = .returned (.tuple #[.agg #[.int .i64 X.node.k, .int .i64 X.node.n, .string X.node.s, .slice X.node.a X.node.len X.node.cap], .int .i64 (errF (validY T))]) ∧ Hid (((validY T = true ∧ LeastOf X T) ∨ (validY T = false ∧ X = zeroT)) ∧ IsT w'.heap.size w' X ∧ Below W2.heap.size W2 w' ∧ Below W.heap.size W w')) := Lib.hid fun W hW =>
    (RLeast_all T w.heap.size W (hTT.bel (hbw W hW)) (hbw W hW).size).mono fun e w' h => ls hW h
  have C5 : Hid (∀ W, Below W2.heap.size W2 W → Calls Tryz.prog 9 #[T.node.val] W fun e w' => e = .returned (.int .i64 (errF (validY T))) ∧ Below W.heap.size W w') := Lib.hid fun W hW =>
    PType_all T w.heap.size W (hTT.bel (hbw W hW)) (hbw W hW).size
  have C6 : Hid (∀ W, Below W2.heap.size W2 W → Calls Tryz.prog 10 #[T.node.val] W fun e w' => e = .returned (.int .i64 (errF (validY T))) ∧ Below W.heap.size W w') := Lib.hid fun W hW =>
    RType_all T w.heap.size W (hTT.bel (hbw W hW)) (hbw W hW).size
  have C7 : Hid (∀ W, Below W2.heap.size W2 W → Calls Tryz.prog 11 #[V.node.val] W fun e w' => e = .returned (.int .i64 (errF (validF V))) ∧ Below W.heap.size W w') := Lib.hid fun W hW =>
    PCheck_all V hSV w.heap.size W (hTV.bel (hbw W hW)) (hbw W hW).size
  have C8 : Hid (∀ W, Below W2.heap.size W2 W → Calls Tryz.prog 12 #[V.node.val] W fun e w' => e = .returned (.int .i64 (errF (validF V))) ∧ Below W.heap.size W w') := Lib.hid fun W hW =>
    RCheck_all V w.heap.size W (hTV.bel (hbw W hW)) (hbw W hW).size
  have C9 : Hid (∀ W, Below W2.heap.size W2 W → Calls Tryz.prog 13 #[V.node.val, T.node.val] W fun e w' => e = .returned (.bool (isF V T)) ∧ Below W.heap.size W w') := Lib.hid fun W hW =>
    PIs_all V T hSV w.heap.size W (hTV.bel (hbw W hW)) (hTT.bel (hbw W hW)) (hbw W hW).size
  have C10 : Hid (∀ W, Below W2.heap.size W2 W → Calls Tryz.prog 14 #[V.node.val, T.node.val] W fun e w' => e = .returned (.bool (isF V T)) ∧ Below W.heap.size W w') := Lib.hid fun W hW =>
    RIs_all V T w.heap.size W (hTV.bel (hbw W hW)) (hTT.bel (hbw W hW)) (hbw W hW).size
  have HV : Hid (∀ W, Below W2.heap.size W2 W → Calls Tryz.prog 16 #[] W fun e W' => e = .returned (.bool true) ∧ Below W.heap.size W W') := Lib.hid fun W hW => hv W (hbw W hW)
  have HB := Lib.hid hb2
  obtain ⟨n1, hn1⟩ : ∃ n, sizeF V = n := ⟨_, rfl⟩
  obtain ⟨ev, hev⟩ : ∃ n, errF (validF V) = n := ⟨_, rfl⟩
  obtain ⟨et, het⟩ : ∃ n, errF (validY T) = n := ⟨_, rfl⟩
  obtain ⟨q, hq⟩ : ∃ q, isF V T = q := ⟨_, rfl⟩
  rw [hn1, hev] at C1 C2
  rw [het] at C3 C4 C5 C6
  rw [hev] at C7 C8
  rw [hq] at C9 C10
  clear hTV hSV hTT hv hb2 hx2 hy2 hbw ls hn1 hev het hq
  obtain ⟨⟨xk, xn, xs, xa, xl, xc⟩, vkids⟩ := V
  obtain ⟨⟨tk, ta, tl, tc⟩, tkids⟩ := T
  dsimp only [LT.node, YT.node, Node.val, TNode.val] at FC C1 C2 C3 C4 C5 C6 C7 C8 C9 C10 hW2 ⊢
  have HW := Lib.hid hW2
  clear hW2
  go_enter Tryz.func3, Tryz.ntmps3
  go_upto_region 1 with (fail)
  rw [HW.out]
  obtain ⟨⟨a0, a1, a2, a3⟩, b0, b1⟩ := FC.out _ (Below.refl _ _)
  go_upto_region 5 with (first
    | (go_at_call 5; refine (C1.out _ (Below.refl _ _)).mono ?_; rintro e W3 ⟨rfl, H3⟩; clear a0 a1 a2 a3 b0 b1; obtain ⟨⟨a0, a1, a2, a3⟩, b0, b1⟩ := FC.out _ H3.out)
    | (go_at_call 6; refine (C2.out _ H3.out).mono ?_; rintro e W4 ⟨rfl, H4⟩; clear a0 a1 a2 a3 b0 b1; obtain ⟨⟨a0, a1, a2, a3⟩, b0, b1⟩ := FC.out _ H4.out)
    | (go_at_call 7; refine (C3.out _ H4.out).mono ?_; rintro e W5 ⟨⟨⟨pk, pn, ps, pa, pl, pc⟩, pkids⟩, rfl, H5⟩; dsimp only [LT.node]; have H5a := Lib.hid (H5.out.2.2.1.alloc (B := W2.heap.size) H5.out.2.2.1.size (.cells #[.int .i64 pk, .int .i64 pn, .string ps, .slice pa pl pc] 24)); clear a0 a1 a2 a3 b0 b1; obtain ⟨⟨a0, a1, a2, a3⟩, b0, b1⟩ := FC.out _ H5a.out)
    | (go_at_call 8; refine (C4.out _ H5a.out).mono ?_; rintro e W6 ⟨⟨⟨rk, rn, rs, ra, rl, rc⟩, rkids⟩, rfl, H6⟩; dsimp only [LT.node]))
  obtain ⟨W7, hW7⟩ : ∃ W7, W6.alloc (.cells #[.int .i64 rk, .int .i64 rn, .string rs, .slice ra rl rc] 24) = W7 := ⟨_, rfl⟩
  have h67 : Below W6.heap.size W6 W7 := by rw [← hW7]; exact (Below.refl _ _).alloc (Nat.le_refl _) _
  obtain ⟨h51, h52, h53, h54⟩ := H5.out
  obtain ⟨h61, h62, h63, h64⟩ := H6.out
  have h57 : Below (W5.heap.size + 1) (W5.alloc (.cells #[.int .i64 pk, .int .i64 pn, .string ps, .slice pa pl pc] 24)) W7 := by
    have := h64.trans (h67.mono h64.size)
    rwa [World.size_alloc] at this
  have h5n := World.alloc_heap_new W5 (.cells #[.int .i64 pk, .int .i64 pn, .string ps, .slice pa pl pc] 24)
  have h5x : W7.heap[W5.heap.size]? = some (.cells #[.int .i64 pk, .int .i64 pn, .string ps, .slice pa pl pc] 24 (0, 0)) := (h57.block _ (by omega)).trans h5n
  have h6x : W7.heap[W6.heap.size]? = some (.cells #[.int .i64 rk, .int .i64 rn, .string rs, .slice ra rl rc] 24 (0, 0)) := by rw [← hW7]; exact World.alloc_heap_new W6 _
  have h7 : Below W2.heap.size W2 W7 := h63.trans (h67.mono h63.size)
  have h5b : Below W5.heap.size W5 W7 := ((Below.refl W5.heap.size W5).alloc (Nat.le_refl _) _).trans (h57.mono (by omega))
  have hP : IsT W7.heap.size W7 (.mk ⟨pk, pn, ps, pa, pl, pc⟩ pkids) := (h52.bel h5b).more h5b.size
  have hR : IsT W7.heap.size W7 (.mk ⟨rk, rn, rs, ra, rl, rc⟩ rkids) := (h62.bel h67).more h67.size
  have hsame := least_same h51 h61
  obtain ⟨bp, hbp⟩ : ∃ bp, W5.heap.size = bp := ⟨_, rfl⟩
  obtain ⟨br, hbr⟩ : ∃ br, W6.heap.size = br := ⟨_, rfl⟩
  rw [hbp] at h5x
  rw [hbr] at h6x
  rw [hW7, hbp, hbr]
  have FX : Hid (∀ W, Below W7.heap.size W7 W → ((W.cell? ⟨w.heap.size, 0, none⟩ = some (.int .i64 xk) ∧ W.cell? ⟨w.heap.size, 1, none⟩ = some (.int .i64 xn) ∧ W.cell? ⟨w.heap.size, 2, none⟩ = some (.string xs) ∧ W.cell? ⟨w.heap.size, 3, none⟩ = some (.slice xa xl xc)) ∧
      W.cell? ⟨w.heap.size + 1, 0, none⟩ = some (.int .i64 tk) ∧ W.cell? ⟨w.heap.size + 1, 1, none⟩ = some (.slice ta tl tc)) ∧
      (W.cell? ⟨bp, 0, none⟩ = some (.int .i64 pk) ∧ W.cell? ⟨bp, 1, none⟩ = some (.int .i64 pn) ∧ W.cell? ⟨bp, 2, none⟩ = some (.string ps) ∧ W.cell? ⟨bp, 3, none⟩ = some (.slice pa pl pc)) ∧
      (W.cell? ⟨br, 0, none⟩ = some (.int .i64 rk) ∧ W.cell? ⟨br, 1, none⟩ = some (.int .i64 rn) ∧ W.cell? ⟨br, 2, none⟩ = some (.string rs) ∧ W.cell? ⟨br, 3, none⟩ = some (.slice ra rl rc))) := Lib.hid fun W hW =>
    ⟨FC.out W (h7.trans (hW.mono h7.size)), (cells4 ((hW.block _ (Array.getElem?_eq_some_iff.1 h5x).1).trans h5x)).1, (cells4 ((hW.block _ (Array.getElem?_eq_some_iff.1 h6x).1).trans h6x)).1⟩
  have CS : Hid (∀ W, Below W7.heap.size W7 W → Calls Tryz.prog 15 #[.agg #[.int .i64 pk, .int .i64 pn, .string ps, .slice pa pl pc], .agg #[.int .i64 rk, .int .i64 rn, .string rs, .slice ra rl rc]] W fun e w' => e = .returned (.bool true) ∧ Hid (Below W7.heap.size W7 w')) := Lib.hid fun W hW => by
    have h := same_any (LT.mk ⟨pk, pn, ps, pa, pl, pc⟩ pkids).ht _ (LT.mk ⟨rk, rn, rs, ra, rl, rc⟩ rkids) (Nat.le_refl _) W7.heap.size W (hP.bel hW) (hR.bel hW) hW.size
    rw [hsame] at h
    exact h.mono fun e w' h => ⟨h.1, Lib.hid (hW.trans (h.2.mono hW.size))⟩
  have up : ∀ {f : FuncId} {args : Array Value} {r : Value}, (∀ W, Below W2.heap.size W2 W → Calls Tryz.prog f args W fun e w' => e = .returned r ∧ Below W.heap.size W w') → Hid (∀ W, Below W7.heap.size W7 W → Calls Tryz.prog f args W fun e w' => e = .returned r ∧ Hid (Below W7.heap.size W7 w') ∧ ((w'.cell? ⟨w.heap.size, 0, none⟩ = some (.int .i64 xk) ∧ w'.cell? ⟨w.heap.size, 1, none⟩ = some (.int .i64 xn) ∧ w'.cell? ⟨w.heap.size, 2, none⟩ = some (.string xs) ∧ w'.cell? ⟨w.heap.size, 3, none⟩ = some (.slice xa xl xc)) ∧
      w'.cell? ⟨w.heap.size + 1, 0, none⟩ = some (.int .i64 tk) ∧ w'.cell? ⟨w.heap.size + 1, 1, none⟩ = some (.slice ta tl tc))) := fun hC => Lib.hid fun W hW =>
    (hC W (h7.trans (hW.mono h7.size))).mono fun e w' h => ⟨h.1, Lib.hid (hW.trans (h.2.mono hW.size)), (FX.out w' (hW.trans (h.2.mono hW.size))).1⟩
  have D5 := up C5.out
  have D6 := up C6.out
  have D7 := up C7.out
  have D8 := up C8.out
  have D9 := up C9.out
  have D10 := up C10.out
  obtain ⟨⟨⟨x0, x1, x2, x3⟩, y0, y1⟩, _⟩ := FX.out _ (Below.refl _ _)
  have H7 := Lib.hid h7
  clear a0 a1 a2 a3 b0 b1 h51 h52 h53 h54 h61 h62 h63 h64 h57 h5n h5x h6x h7 h5b hP hR hsame up C1 C2 C3 C4 C5 C6 C7 C8 C9 C10 h67 hW7 hbp hbr H3 H4 H5 H5a H6 FC
  go_cut [53] (fun s wx => s = .bool false ∧ Hid (Below W7.heap.size W7 wx))
  case first =>
    go_region_held3 (fun w' => w'.cell? ⟨w.heap.size, 0, none⟩ = some (.int .i64 xk) ∧ w'.cell? ⟨w.heap.size, 1, none⟩ = some (.int .i64 xn) ∧ w'.cell? ⟨w.heap.size, 2, none⟩ = some (.string xs) ∧ w'.cell? ⟨w.heap.size, 3, none⟩ = some (.slice xa xl xc) ∧ w'.cell? ⟨w.heap.size + 1, 0, none⟩ = some (.int .i64 tk) ∧ w'.cell? ⟨w.heap.size + 1, 1, none⟩ = some (.slice ta tl tc))
      (go_keep)
      (first
        | (go_at_call 9; refine (D5.out _ ?_).mono ?_; (first | exact Below.refl _ _ | exact (Below.refl _ _).drew); rintro e V5 ⟨rfl, H5, ⟨s0, s1, s2, s3⟩, s4, s5⟩)
        | (go_at_call 10; refine (D6.out _ H5.out).mono ?_; rintro e V6 ⟨rfl, H6, ⟨s0, s1, s2, s3⟩, s4, s5⟩)
        | (go_at_call 11; refine (D7.out _ H6.out).mono ?_; rintro e V7 ⟨rfl, H7', ⟨s0, s1, s2, s3⟩, s4, s5⟩)
        | (go_at_call 12; refine (D8.out _ H7'.out).mono ?_; rintro e V8 ⟨rfl, H8, ⟨s0, s1, s2, s3⟩, s4, s5⟩)
        | (go_at_call 13; refine (D9.out _ H8.out).mono ?_; rintro e V9 ⟨rfl, H9, ⟨s0, s1, s2, s3⟩, s4, s5⟩)
        | (go_at_call 14; refine (D10.out _ H9.out).mono ?_; rintro e V10 ⟨rfl, H10, ⟨s0, s1, s2, s3⟩, s4, s5⟩))
    all_goals (go_step; go_step; go_meet; exact ⟨by simp, H10⟩)
  case rest =>
    obtain ⟨rfl, HF⟩ := hcut
    clear x0 x1 x2 x3 y0 y1 D5 D6 D7 D8 D9 D10
    obtain ⟨_, ⟨p0, p1, p2, p3⟩, r0, r1, r2, r3⟩ := FX.out _ HF.out
    go_wp2_with (first
      | (go_at_call 15; refine (CS.out _ HF.out).mono ?_; rintro e U1 ⟨rfl, K1⟩)
      | (go_at_call 16; refine (HV.out _ (H7.out.trans (K1.out.mono H7.out.size))).mono ?_; rintro e U2 ⟨rfl, K2⟩))
    go_ret
    have k7 := H7.out.trans (K1.out.mono H7.out.size)
    have kb := HB.out.trans (k7.mono HB.out.size)
    exact ⟨rfl, kb.trans (K2.mono kb.size)⟩
end Go.Proofs.YtofboalgbgipoaaGreatDoor
