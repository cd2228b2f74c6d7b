/- Compare, of any two values, and the statement ValueOrders' walk. -/
import Derived.Test.YtolnkacccdkaoaaGreatDoorValy
set_option linter.all false
namespace Go.Proofs.YtolnkacccdkaoaaGreatDoor
open Go.RowKit Go.Shelf
attribute [local go_sem] Oper.semAt_some

/-- Sizes that a value that came in has. -/
abbrev Sized (T : LT) : Prop := ∀ x ∈ T.pre 1, x.2.s.size ≤ maxLen ∧ x.2.len ≤ maxLen
set_option maxRecDepth 100000 in
set_option maxHeartbeats 2000000 in
theorem Valid_any (T : LT) (n₀ : Nat) (w : World) (hT : IsT n₀ w T) (hn : n₀ ≤ w.heap.size) :
    Calls Tryz.prog 51 #[T.node.val] w fun e w' => e = .returned (.bool (validF T)) ∧ Below w.heap.size w w' := by
  have HS : Hid (∀ W, Below w.heap.size w W → Calls Tryz.prog 82 #[T.node.val, .int .i64 6] W fun e W' => e = .returned (.bool (shapedF 6 T)) ∧ Hid (Below W.heap.size W W')) := Lib.hid fun W hW =>
    (shaped_any 6 6 rfl (by omega) T n₀ W (hT.bel (hW.mono hn)) (by have := hW.size; omega)).mono fun e W' h => ⟨h.1, Lib.hid h.2⟩
  have HC : Hid (shapedF 6 T = true → ∀ W, Below w.heap.size w W → Calls Tryz.prog 52 #[T.node.val] W fun e W' => e = .returned (.int .i64 T.cnt) ∧ Hid (Below w.heap.size w W')) := Lib.hid fun h W hW =>
    (count_any 6 T (by omega) h n₀ W (hT.bel (hW.mono hn)) (by have := hW.size; omega)).mono fun e W' h => ⟨h.1, Lib.hid (hW.trans (h.2.mono hW.size))⟩
  clear hT hn
  unfold validF
  obtain ⟨s, hs⟩ : ∃ s, shapedF 6 T = s := ⟨_, rfl⟩
  obtain ⟨c, hc⟩ : ∃ c, T.cnt = c := ⟨_, rfl⟩
  rw [hs, hc] at HC
  rw [hs] at HS
  rw [hs, hc]
  clear hs hc
  obtain ⟨⟨xk, xn, xs, xa, xl, xc⟩, l⟩ := T
  dsimp only [LT.node, Node.val] at HS HC ⊢
  have HQ := Lib.hid (World.alloc_heap_new w (.cells #[.int .i64 xk, .int .i64 xn, .string xs, .slice xa xl xc] 24))
  have hb1 : Below w.heap.size w (w.alloc (.cells #[.int .i64 xk, .int .i64 xn, .string xs, .slice xa xl xc] 24)) := (Below.refl _ _).alloc (Nat.le_refl _) _
  have HX := Lib.hid hb1
  clear hb1
  cases s with
  | false =>
    go_enter Tryz.func51, Tryz.ntmps51
    go_wp2_with (go_at_call 82; refine (HS.out _ HX.out).mono ?_; rintro e W3 ⟨rfl, H3⟩)
    go_ret
    exact ⟨ret_bool rfl, HX.out.trans (H3.out.mono HX.out.size)⟩
  | true =>
    have HC' := Lib.hid (HC.out rfl)
    clear HC
    by_cases h60 : c ≤ 60
    all_goals
      go_enter Tryz.func51, Tryz.ntmps51
      go_wp2_with (first
        | (go_at_call 82; refine (HS.out _ HX.out).mono ?_; rintro e W3 ⟨rfl, H3⟩; have H3' := Lib.hid (HX.out.trans (H3.out.mono HX.out.size)); obtain ⟨⟨b0, b1, b2, b3⟩, _⟩ := cells4 ((H3.out.block _ (Array.getElem?_eq_some_iff.1 HQ.out).1).trans HQ.out))
        | (go_at_call 52; refine (HC'.out _ H3'.out).mono ?_; rintro e W4 ⟨rfl, H4⟩))
      go_ret
      exact ⟨ret_bool (by simp [h60]; omega), H4.out⟩
/-- What Compare answers. -/
def cmpN (A B : LT) : Int := if validF A = true ∧ validF B = true then ordF A B else 0
def cmpE (A B : LT) : Int := if validF A = true ∧ validF B = true then 0 else 1
set_option maxRecDepth 100000 in
set_option maxHeartbeats 4000000 in
theorem RCompare_any (A B : LT) (n₀ : Nat) (w : World) (hTA : IsT n₀ w A) (hTB : IsT n₀ w B) (hn : n₀ ≤ w.heap.size) :
    Calls Tryz.prog 26 #[A.node.val, B.node.val] w fun e w' => e = .returned (.tuple #[.int .i64 (cmpN A B), .int .i64 (cmpE A B)]) ∧ Below w.heap.size w w' := by
  have ck : ∀ V : LT, IsT n₀ w V → ∀ W, Below w.heap.size w W → Calls Tryz.prog 51 #[V.node.val] W fun e w' => e = .returned (.bool (validF V)) ∧ Hid (Below W.heap.size W w') := by
    intro V hT W hW
    exact (Valid_any V n₀ W (hT.bel (hW.mono hn)) (by have := hW.size; omega)).mono fun e w' h => ⟨h.1, Lib.hid h.2⟩
  have HA := Lib.hid (ck A hTA)
  have HB := Lib.hid (ck B hTB)
  have HO : Hid (validF A = true → validF B = true → ∀ W, Below w.heap.size w W → Calls Tryz.prog 63 #[A.node.val, B.node.val] W fun e w' => e = .returned (.int .i64 (ordF A B)) ∧ Hid (Below w.heap.size w w')) := Lib.hid fun h1 h2 W hW =>
    (Order_any A.ht A B (Nat.le_refl _) (validF_ok h1).1 (validF_ok h2).1 n₀ W (hTA.bel (hW.mono hn)) (hTB.bel (hW.mono hn)) (by have := hW.size; omega)).mono fun e w' h => ⟨h.1, Lib.hid (hW.trans (h.2.mono hW.size))⟩
  clear ck hTA hTB hn
  unfold cmpN cmpE
  obtain ⟨r, hr⟩ : ∃ r, ordF A B = r := ⟨_, rfl⟩
  obtain ⟨p, hp⟩ : ∃ p, validF A = p := ⟨_, rfl⟩
  obtain ⟨q, hq⟩ : ∃ q, validF B = q := ⟨_, rfl⟩
  rw [hr, hp, hq] at HO
  rw [hp] at HA
  rw [hq] at HB
  rw [hr, hp, hq]
  clear hr hp hq
  obtain ⟨⟨xk, xn, xs, xa, xl, xc⟩, l⟩ := A
  obtain ⟨⟨yk, yn, ys, ya, yl, yc⟩, m⟩ := B
  dsimp only [LT.node, Node.val] at HA HB HO ⊢
  have HQ := Lib.hid (box2 w #[.int .i64 xk, .int .i64 xn, .string xs, .slice xa xl xc] #[.int .i64 yk, .int .i64 yn, .string ys, .slice ya yl yc] 24)
  have hbx : Below w.heap.size w ((w.alloc (.cells #[.int .i64 xk, .int .i64 xn, .string xs, .slice xa xl xc] 24)).alloc (.cells #[.int .i64 yk, .int .i64 yn, .string ys, .slice ya yl yc] 24)) := ((Below.refl _ _).alloc (Nat.le_refl _) _).alloc (by simp) _
  have HX := Lib.hid hbx
  clear hbx
  cases p with
  | false =>
    simp only [Bool.false_eq_true, false_and, and_false, and_self, if_false, if_true]
    go_enter Tryz.func26, Tryz.ntmps26
    go_wp2_with (go_at_call 51; refine (HA.out _ HX.out).mono ?_; rintro e W3 ⟨rfl, H3⟩)
    go_ret2
    exact ⟨rfl, HX.out.trans (H3.out.mono HX.out.size)⟩
  | true =>
    cases q with
    | false =>
      simp only [Bool.false_eq_true, false_and, and_false, and_self, if_false, if_true]
      go_enter Tryz.func26, Tryz.ntmps26
      go_wp2_with (first
        | (go_at_call_of 51 (Value.agg #[.int .i64 xk, .int .i64 xn, .string xs, .slice xa xl xc]); refine (HA.out _ HX.out).mono ?_; rintro e W3 ⟨rfl, H3⟩; have H3' := Lib.hid (HX.out.trans (H3.out.mono HX.out.size)); obtain ⟨⟨b0, b1, b2, b3⟩, _⟩ := cells4 ((H3.out.block _ (Array.getElem?_eq_some_iff.1 HQ.out.2).1).trans HQ.out.2))
        | (go_at_call_of 51 (Value.agg #[.int .i64 yk, .int .i64 yn, .string ys, .slice ya yl yc]); refine (HB.out _ H3'.out).mono ?_; rintro e W4 ⟨rfl, H4⟩))
      go_ret2
      exact ⟨rfl, H3'.out.trans (H4.out.mono H3'.out.size)⟩
    | true =>
      have HO' := Lib.hid (HO.out rfl rfl)
      clear HO
      simp only [Bool.false_eq_true, false_and, and_false, and_self, if_false, if_true]
      go_enter Tryz.func26, Tryz.ntmps26
      go_wp2_with (first
        | (go_at_call_of 51 (Value.agg #[.int .i64 xk, .int .i64 xn, .string xs, .slice xa xl xc]); refine (HA.out _ HX.out).mono ?_; rintro e W3 ⟨rfl, H3⟩; have HP := Lib.hid (And.intro ((H3.out.block _ (Array.getElem?_eq_some_iff.1 HQ.out.1).1).trans HQ.out.1) ((H3.out.block _ (Array.getElem?_eq_some_iff.1 HQ.out.2).1).trans HQ.out.2)); have H3' := Lib.hid (HX.out.trans (H3.out.mono HX.out.size)); obtain ⟨⟨b0, b1, b2, b3⟩, _⟩ := cells4 HP.out.2)
        | (go_at_call_of 51 (Value.agg #[.int .i64 yk, .int .i64 yn, .string ys, .slice ya yl yc]); refine (HB.out _ H3'.out).mono ?_; rintro e W4 ⟨rfl, H4⟩; have H4' := Lib.hid (H3'.out.trans (H4.out.mono H3'.out.size)); obtain ⟨⟨c0, c1, c2, c3⟩, _⟩ := cells4 ((H4.out.block _ (Array.getElem?_eq_some_iff.1 HP.out.1).1).trans HP.out.1); obtain ⟨⟨d0, d1, d2, d3⟩, _⟩ := cells4 ((H4.out.block _ (Array.getElem?_eq_some_iff.1 HP.out.2).1).trans HP.out.2))
        | (go_at_call 63; refine (HO'.out _ H4'.out).mono ?_; rintro e W5 ⟨rfl, H5⟩))
      go_ret2
      exact ⟨rfl, H5.out⟩
set_option maxRecDepth 100000 in
set_option maxHeartbeats 4000000 in
theorem Compare_all (A B : LT) (hSA : Sized A) (hSB : Sized B) (n₀ : Nat) (w : World) (hTA : IsT n₀ w A) (hTB : IsT n₀ w B) (hn : n₀ ≤ w.heap.size) :
    Calls Tryz.prog 25 #[A.node.val, B.node.val] w fun e w' => e = .returned (.tuple #[.int .i64 (cmpN A B), .int .i64 (cmpE A B)]) ∧ Below w.heap.size w w' := by
  have ck : ∀ V : LT, Sized V → IsT n₀ w V → ∀ W, Below w.heap.size w W → Calls Tryz.prog 19 #[V.node.val] W fun e w' => e = .returned (.int .i64 (if validF V = true then 0 else 1)) ∧ Hid (Below W.heap.size W w') := by
    intro V hS hT W hW
    have hc := Check_all V W ((hT.bel (hW.mono hn)).more (by have := hW.size; omega)) hS
    have he : (if sizeF V = 0 then (1 : Int) else 0) = if validF V = true then 0 else 1 := by
      by_cases h : validF V = true
      · rw [if_pos h, if_neg (fun e => by rw [(sizeF_zero V).1 e] at h; cases h)]
      · rw [if_neg h, if_pos ((sizeF_zero V).2 (by simpa using h))]
    rw [he] at hc
    exact hc.mono fun e w' h => ⟨h.1, Lib.hid h.2⟩
  have HA := Lib.hid (ck A hSA hTA)
  have HB := Lib.hid (ck B hSB hTB)
  have HO : Hid (∀ W, Below w.heap.size w W → Calls Tryz.prog 62 #[A.node.val, B.node.val] W fun e w' => e = .returned (.int .i64 (ordF A B)) ∧ Hid (Below w.heap.size w w')) := Lib.hid fun W hW =>
    (order_any A.ht A B (Nat.le_refl _) n₀ W (hTA.bel (hW.mono hn)) (hTB.bel (hW.mono hn)) (by have := hW.size; omega)).mono fun e w' h => ⟨h.1, Lib.hid (hW.trans (h.2.mono hW.size))⟩
  clear ck hTA hTB hn hSA hSB
  unfold cmpN cmpE
  obtain ⟨r, hr⟩ : ∃ r, ordF A B = r := ⟨_, rfl⟩
  obtain ⟨p, hp⟩ : ∃ p, validF A = p := ⟨_, rfl⟩
  obtain ⟨q, hq⟩ : ∃ q, validF B = q := ⟨_, rfl⟩
  rw [hr] at HO
  rw [hp] at HA
  rw [hq] at HB
  rw [hr, hp, hq]
  clear hr hp hq
  obtain ⟨⟨xk, xn, xs, xa, xl, xc⟩, l⟩ := A
  obtain ⟨⟨yk, yn, ys, ya, yl, yc⟩, m⟩ := B
  dsimp only [LT.node, Node.val] at HA HB HO ⊢
  have HQ := Lib.hid (box2 w #[.int .i64 xk, .int .i64 xn, .string xs, .slice xa xl xc] #[.int .i64 yk, .int .i64 yn, .string ys, .slice ya yl yc] 24)
  have hbx : Below w.heap.size w ((w.alloc (.cells #[.int .i64 xk, .int .i64 xn, .string xs, .slice xa xl xc] 24)).alloc (.cells #[.int .i64 yk, .int .i64 yn, .string ys, .slice ya yl yc] 24)) := ((Below.refl _ _).alloc (Nat.le_refl _) _).alloc (by simp) _
  have HX := Lib.hid hbx
  clear hbx
  cases p with
  | false =>
    simp only [Bool.false_eq_true, if_false] at HA
    simp only [Bool.false_eq_true, false_and, and_false, and_self, if_false, if_true]
    go_enter Tryz.func25, Tryz.ntmps25
    go_wp2_with (go_at_call 19; refine (HA.out _ HX.out).mono ?_; rintro e W3 ⟨rfl, H3⟩)
    go_ret2
    exact ⟨rfl, HX.out.trans (H3.out.mono HX.out.size)⟩
  | true =>
    simp only [if_true] at HA
    cases q with
    | false =>
      simp only [Bool.false_eq_true, if_false] at HB
      simp only [Bool.false_eq_true, false_and, and_false, and_self, if_false, if_true]
      go_enter Tryz.func25, Tryz.ntmps25
      go_wp2_with (first
        | (go_at_call_of 19 (Value.agg #[.int .i64 xk, .int .i64 xn, .string xs, .slice xa xl xc]); refine (HA.out _ HX.out).mono ?_; rintro e W3 ⟨rfl, H3⟩; have H3' := Lib.hid (HX.out.trans (H3.out.mono HX.out.size)); obtain ⟨⟨b0, b1, b2, b3⟩, _⟩ := cells4 ((H3.out.block _ (Array.getElem?_eq_some_iff.1 HQ.out.2).1).trans HQ.out.2))
        | (go_at_call_of 19 (Value.agg #[.int .i64 yk, .int .i64 yn, .string ys, .slice ya yl yc]); refine (HB.out _ H3'.out).mono ?_; rintro e W4 ⟨rfl, H4⟩))
      go_ret2
      exact ⟨rfl, H3'.out.trans (H4.out.mono H3'.out.size)⟩
    | true =>
      simp only [if_true] at HB
      simp only [Bool.false_eq_true, false_and, and_false, and_self, if_false, if_true]
      go_enter Tryz.func25, Tryz.ntmps25
      go_wp2_with (first
        | (go_at_call_of 19 (Value.agg #[.int .i64 xk, .int .i64 xn, .string xs, .slice xa xl xc]); refine (HA.out _ HX.out).mono ?_; rintro e W3 ⟨rfl, H3⟩; have HP := Lib.hid (And.intro ((H3.out.block _ (Array.getElem?_eq_some_iff.1 HQ.out.1).1).trans HQ.out.1) ((H3.out.block _ (Array.getElem?_eq_some_iff.1 HQ.out.2).1).trans HQ.out.2)); have H3' := Lib.hid (HX.out.trans (H3.out.mono HX.out.size)); obtain ⟨⟨b0, b1, b2, b3⟩, _⟩ := cells4 HP.out.2)
        | (go_at_call_of 19 (Value.agg #[.int .i64 yk, .int .i64 yn, .string ys, .slice ya yl yc]); refine (HB.out _ H3'.out).mono ?_; rintro e W4 ⟨rfl, H4⟩; have H4' := Lib.hid (H3'.out.trans (H4.out.mono H3'.out.size)); obtain ⟨⟨c0, c1, c2, c3⟩, _⟩ := cells4 ((H4.out.block _ (Array.getElem?_eq_some_iff.1 HP.out.1).1).trans HP.out.1); obtain ⟨⟨d0, d1, d2, d3⟩, _⟩ := cells4 ((H4.out.block _ (Array.getElem?_eq_some_iff.1 HP.out.2).1).trans HP.out.2))
        | (go_at_call 62; refine (HO.out _ H4'.out).mono ?_; rintro e W5 ⟨rfl, H5⟩))
      go_ret2
      exact ⟨rfl, H5.out⟩
set_option maxRecDepth 100000 in
set_option maxHeartbeats 4000000 in
theorem Orders_any (A B : LT) (w : World) (hTA : IsT w.heap.size w A) (hSA : Sized A) (hTB : IsT w.heap.size w B) (hSB : Sized B)
    (hv : ∀ W, Below w.heap.size w W → Calls Tryz.prog 24 #[] W fun e W' => e = .returned (.bool true) ∧ Below W.heap.size W W') :
    Calls Tryz.prog 4 #[A.node.val, B.node.val] w fun e w' => e = .returned (.bool true) ∧ Below w.heap.size w w' := by
  have HC : Hid (∀ W, Below w.heap.size w W → Calls Tryz.prog 25 #[A.node.val, B.node.val] W fun e w' => e = .returned (.tuple #[.int .i64 (cmpN A B), .int .i64 (cmpE A B)]) ∧ Hid (Below W.heap.size W w')) := Lib.hid fun W hW =>
    (Compare_all A B hSA hSB w.heap.size W (hTA.bel hW) (hTB.bel hW) hW.size).mono fun e w' h => ⟨h.1, Lib.hid h.2⟩
  have HR : Hid (∀ W, Below w.heap.size w W → Calls Tryz.prog 26 #[A.node.val, B.node.val] W fun e w' => e = .returned (.tuple #[.int .i64 (cmpN A B), .int .i64 (cmpE A B)]) ∧ Hid (Below w.heap.size w w')) := Lib.hid fun W hW =>
    (RCompare_any A B w.heap.size W (hTA.bel hW) (hTB.bel hW) hW.size).mono fun e w' h => ⟨h.1, Lib.hid (hW.trans (h.2.mono hW.size))⟩
  have HV := Lib.hid hv
  clear hTA hTB hSA hSB hv
  obtain ⟨r, hr⟩ : ∃ r, cmpN A B = r := ⟨_, rfl⟩
  obtain ⟨q, hq⟩ : ∃ q, cmpE A B = q := ⟨_, rfl⟩
  rw [hr, hq] at HC HR
  clear hr hq
  obtain ⟨⟨xk, xn, xs, xa, xl, xc⟩, l⟩ := A
  obtain ⟨⟨yk, yn, ys, ya, yl, yc⟩, m⟩ := B
  dsimp only [LT.node, Node.val] at HC HR ⊢
  have HQ := Lib.hid (box2 w #[.int .i64 xk, .int .i64 xn, .string xs, .slice xa xl xc] #[.int .i64 yk, .int .i64 yn, .string ys, .slice ya yl yc] 24)
  have hbx : Below w.heap.size w ((w.alloc (.cells #[.int .i64 xk, .int .i64 xn, .string xs, .slice xa xl xc] 24)).alloc (.cells #[.int .i64 yk, .int .i64 yn, .string ys, .slice ya yl yc] 24)) := ((Below.refl _ _).alloc (Nat.le_refl _) _).alloc (by simp) _
  have HX := Lib.hid hbx
  clear hbx
  go_enter Tryz.func4, Tryz.ntmps4
  go_wp2_with (first
    | (go_at_call 25; refine (HC.out _ HX.out).mono ?_; rintro e W3 ⟨rfl, H3⟩; have H3' := Lib.hid (HX.out.trans (H3.out.mono HX.out.size)); obtain ⟨⟨b0, b1, b2, b3⟩, _⟩ := cells4 ((H3.out.block _ (Array.getElem?_eq_some_iff.1 HQ.out.1).1).trans HQ.out.1); obtain ⟨⟨c0, c1, c2, c3⟩, _⟩ := cells4 ((H3.out.block _ (Array.getElem?_eq_some_iff.1 HQ.out.2).1).trans HQ.out.2))
    | (go_at_call 26; refine (HR.out _ H3'.out).mono ?_; rintro e W4 ⟨rfl, H4⟩)
    | (go_at_call 24; refine (HV.out _ H4.out).mono ?_; rintro e W5 ⟨rfl, H5⟩))
  go_ret
  exact ⟨rfl, H4.out.trans (H5.mono H4.out.size)⟩
end Go.Proofs.YtolnkacccdkaoaaGreatDoor
