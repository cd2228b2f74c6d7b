/- Bin, as the reference of this layer says it, and the statement CalcBin's walk. -/
import Derived.Test.YtlbnfokedkpccaaGreatCalp
set_option linter.all false
namespace Go.Proofs.YtlbnfokedkpccaaGreat
open Go.RowKit Go.Shelf
attribute [local go_sem] Oper.semAt_some

theorem Do_any (op : Nat) (hop : op < 12) (A B : LT) (hk : op < 10 → In A.node.n ∧ In B.node.n) (n₀ : Nat) (w : World) (hTA : IsT n₀ w A) (hTB : IsT n₀ w B) (hn : n₀ ≤ w.heap.size) :
    Calls Tryz.prog 89 #[.int .i64 op, A.node.val, B.node.val] w fun e w' => e = .returned (wordV (binF op A B)) ∧ Below w.heap.size w w' := by
  by_cases h : op < 10
  · have he : binF op A B = ans op A.node.n B.node.n := by
      unfold binF
      rw [if_neg (by omega), if_neg (by omega)]
    rw [he]
    exact Do_words op h A.node B.node (hk h).1 (hk h).2 w
  · exact Do_cmps op (by omega) A B n₀ w hTA hTB hn

/-- The answer of Valid, of 60 values, 6 within one another. -/
theorem valid60 (T : LT) (w : World) (e : Ending) (w' : World) (h : ValR 6 T 60 w e w') : ∃ m, e = .returned (.tuple #[.int .i64 m, .bool (validF T)]) ∧ Hid (Below w.heap.size w w') := by
  obtain ⟨m, b, he, hb, _, hw⟩ := h
  refine ⟨m, ?_, hw⟩
  rw [he, hb]
  unfold validF
  rw [show decide ((T.cnt : Int) ≤ 60) = decide (T.cnt ≤ 60) from decide_eq_decide.2 (by omega)]
/-- A world in which the two values, and the one that is returned, stand. -/
structure G3 (w W : World) (x y : Node) : Prop where
  bel : Below w.heap.size w W
  ha : W.heap[w.heap.size]? = some (.cells #[.int .i64 x.k, .int .i64 x.n, .string x.s, .slice x.a x.len x.cap] 44 (0, 0))
  hb : W.heap[w.heap.size + 1]? = some (.cells #[.int .i64 y.k, .int .i64 y.n, .string y.s, .slice y.a y.len y.cap] 44 (0, 0))
  hc : W.heap[w.heap.size + 2]? = some (.cells #[.int .i64 0, .int .i64 0, .string ⟨#[]⟩, .slice none 0 0] 44 (0, 0))
theorem G3.on {w W W' : World} {x y : Node} (h : G3 w W x y) (hb : Hid (Below W.heap.size W W')) : G3 w W' x y :=
  ⟨h.bel.trans (hb.out.mono h.bel.size), blk hb.out h.ha, blk hb.out h.hb, blk hb.out h.hc⟩
set_option maxRecDepth 100000 in
set_option maxHeartbeats 4000000 in
theorem RBin_any (o : Int) (A B : LT) (n₀ : Nat) (w : World) (hTA : IsT n₀ w A) (hTB : IsT n₀ w B) (hn : n₀ ≤ w.heap.size) :
    Calls Tryz.prog 27 #[.int .i64 o, A.node.val, B.node.val] w fun e w' => e = .returned (.tuple #[wordV (binN o A B), .int .i64 (binE o A B)]) ∧ Below w.heap.size w w' := by
  have HB := Lib.hid (below3 w #[.int .i64 A.node.k, .int .i64 A.node.n, .string A.node.s, .slice A.node.a A.node.len A.node.cap] #[.int .i64 B.node.k, .int .i64 B.node.n, .string B.node.s, .slice B.node.a B.node.len B.node.cap] #[.int .i64 0, .int .i64 0, .string ⟨#[]⟩, .slice none 0 0] 44)
  have iv : ∀ V : LT, IsT n₀ w V → ∀ W, Below w.heap.size w W → Calls Tryz.prog 88 #[V.node.val, .int .i64 60, .int .i64 6] W fun e w' => ∃ m, e = .returned (.tuple #[.int .i64 m, .bool (validF V)]) ∧ Hid (Below W.heap.size W w') := fun V hT W hW =>
    (Valid05_any 6 6 rfl (by omega) V 60 (by omega) (by omega) n₀ W (hT.bel (hW.mono hn)) (by have := hW.size; omega)).mono fun e w' h => valid60 V W e w' h
  have HA := Lib.hid (iv A hTA)
  have HV := Lib.hid (iv B hTB)
  have HD : Hid (0 ≤ o → o < 12 → (o < 10 → In A.node.n ∧ In B.node.n) → ∀ W, Below w.heap.size w W → Calls Tryz.prog 89 #[.int .i64 o, A.node.val, B.node.val] W fun e w' => e = .returned (wordV (binF o.toNat A B)) ∧ Hid (Below W.heap.size W w')) := Lib.hid (fun h0 h12 hk W hW => by
    have h := Do_any o.toNat (by omega) A B (fun h => hk (by omega)) n₀ W (hTA.bel (hW.mono hn)) (hTB.bel (hW.mono hn)) (by have := hW.size; omega)
    rw [show ((o.toNat : Nat) : Int) = o by omega] at h
    exact h.mono fun e w' h => ⟨h.1, Lib.hid h.2⟩)
  have HI : Hid (validF A = true → validF B = true → A.node.k = 0 → B.node.k = 0 → In A.node.n ∧ In B.node.n) := Lib.hid (fun h1 h2 h3 h4 => ⟨valid_word h1 h3, valid_word h2 h4⟩)
  clear iv hTA hTB hn
  obtain ⟨nn, hnn⟩ : ∃ nn, binN o A B = nn := ⟨_, rfl⟩
  obtain ⟨ee, hee⟩ : ∃ ee, binE o A B = ee := ⟨_, rfl⟩
  have HNE : Hid ((o < 0 ∨ 12 ≤ o ∨ validF A = false ∨ validF B = false → nn = 0 ∧ ee = 1) ∧ (¬ (o < 0 ∨ 12 ≤ o ∨ validF A = false ∨ validF B = false) → o < 10 → (A.node.k = 0 → ¬ B.node.k = 0) → nn = 0 ∧ ee = 7) ∧ (¬ (o < 0 ∨ 12 ≤ o ∨ validF A = false ∨ validF B = false) → ¬ (o < 10 ∧ (A.node.k = 0 → ¬ B.node.k = 0)) → nn = binF o.toNat A B ∧ ee = 0)) := Lib.hid (by
    rw [← hnn, ← hee]
    unfold binN binE
    refine ⟨fun h => ?_, fun h h1 h2 => ?_, fun h h1 => ?_⟩
    · rw [if_pos h, if_pos h]; exact ⟨rfl, rfl⟩
    · rw [if_neg h, if_neg h, if_pos ⟨h1, h2⟩, if_pos ⟨h1, h2⟩]; exact ⟨rfl, rfl⟩
    · rw [if_neg h, if_neg h, if_neg h1, if_neg h1]; exact ⟨rfl, rfl⟩)
  rw [hnn, hee]
  clear hnn hee
  obtain ⟨va, hva⟩ : ∃ va, validF A = va := ⟨_, rfl⟩
  obtain ⟨vb, hvb⟩ : ∃ vb, validF B = vb := ⟨_, rfl⟩
  obtain ⟨z, hz⟩ : ∃ z, binF o.toNat A B = z := ⟨_, rfl⟩
  rw [hva, hvb] at HI
  rw [hva] at HA
  rw [hvb] at HV
  rw [hz] at HD
  rw [hva, hvb, hz] at HNE
  clear hva hvb hz
  obtain ⟨⟨xk, xn, xs, xa, xl, xc⟩, l⟩ := A
  obtain ⟨⟨yk, yn, ys, ya, yl, yc⟩, m⟩ := B
  dsimp only [LT.node, Node.val] at HB HA HV HD HI HNE ⊢
  have F0 : Hid (G3 w (((w.alloc (.cells #[.int .i64 xk, .int .i64 xn, .string xs, .slice xa xl xc] 44)).alloc (.cells #[.int .i64 yk, .int .i64 yn, .string ys, .slice ya yl yc] 44)).alloc (.cells #[.int .i64 0, .int .i64 0, .string ⟨#[]⟩, .slice none 0 0] 44)) ⟨xk, xn, xs, xa, xl, xc⟩ ⟨yk, yn, ys, ya, yl, yc⟩) := Lib.hid ⟨HB.out.1, HB.out.2.1, HB.out.2.2.1, HB.out.2.2.2⟩
  clear HB
  by_cases h0 : o < 0
  · obtain ⟨n1, n2⟩ := HNE.out.1 (.inl h0)
    rw [n1, n2]
    clear n1 n2
    clear HD HI HNE
    go_enter Tryz.func27, Tryz.ntmps27
    go_wp2_with (first
        | (have hh := F0; clear hh; go_at_call 88; refine (HA.out _ F0.out.bel).mono ?_; rintro e W1 ⟨m1, rfl, H1⟩; have F1 := Lib.hid (F0.out.on H1); clear F0; obtain ⟨⟨q0, q1, q2, q3⟩, _⟩ := cells4 F1.out.hb)
        | (go_at_call 88; refine (HV.out _ F1.out.bel).mono ?_; rintro e W2 ⟨m2, rfl, H2⟩; have F2 := Lib.hid (F1.out.on H2); obtain ⟨⟨p0, p1, p2, p3⟩, _⟩ := cells4 F2.out.ha; obtain ⟨⟨r0, r1, r2, r3⟩, _⟩ := cells4 F2.out.hb; obtain ⟨⟨c0, c1, c2, c3⟩, ⟨d0, d1, d2, d3⟩⟩ := cells4 F2.out.hc))
    refine ⟨rfl, .tuple #[wordV 0, .int .i64 1], ?_, rfl, ?_⟩
    · simp [results, Tryz.f27, go_sem, wordV, c0, c1, c2, c3]
    · exact ((((F2.out.bel.setCell (by simp <;> omega) _).setCell (by simp <;> omega) _).setCell (by simp <;> omega) _).setCell (by simp <;> omega) _)
  · have h0' : 0 ≤ o := by omega
    by_cases h12 : 12 ≤ o
    · obtain ⟨n1, n2⟩ := HNE.out.1 (.inr (.inl h12))
      rw [n1, n2]
      clear n1 n2
      clear HD HI HNE
      go_enter Tryz.func27, Tryz.ntmps27
      go_wp2_with (first
          | (have hh := F0; clear hh; go_at_call 88; refine (HA.out _ F0.out.bel).mono ?_; rintro e W1 ⟨m1, rfl, H1⟩; have F1 := Lib.hid (F0.out.on H1); clear F0; obtain ⟨⟨q0, q1, q2, q3⟩, _⟩ := cells4 F1.out.hb)
          | (go_at_call 88; refine (HV.out _ F1.out.bel).mono ?_; rintro e W2 ⟨m2, rfl, H2⟩; have F2 := Lib.hid (F1.out.on H2); obtain ⟨⟨p0, p1, p2, p3⟩, _⟩ := cells4 F2.out.ha; obtain ⟨⟨r0, r1, r2, r3⟩, _⟩ := cells4 F2.out.hb; obtain ⟨⟨c0, c1, c2, c3⟩, ⟨d0, d1, d2, d3⟩⟩ := cells4 F2.out.hc))
      refine ⟨rfl, .tuple #[wordV 0, .int .i64 1], ?_, rfl, ?_⟩
      · simp [results, Tryz.f27, go_sem, wordV, c0, c1, c2, c3]
      · exact ((((F2.out.bel.setCell (by simp <;> omega) _).setCell (by simp <;> omega) _).setCell (by simp <;> omega) _).setCell (by simp <;> omega) _)
    · have h12' : o < 12 := by omega
      cases va with
      | false =>
        obtain ⟨n1, n2⟩ := HNE.out.1 (.inr (.inr (.inl rfl)))
        rw [n1, n2]
        clear n1 n2
        clear HD HI HNE
        go_enter Tryz.func27, Tryz.ntmps27
        go_wp2_with (first
            | (have hh := F0; clear hh; go_at_call 88; refine (HA.out _ F0.out.bel).mono ?_; rintro e W1 ⟨m1, rfl, H1⟩; have F1 := Lib.hid (F0.out.on H1); clear F0; obtain ⟨⟨q0, q1, q2, q3⟩, _⟩ := cells4 F1.out.hb)
            | (go_at_call 88; refine (HV.out _ F1.out.bel).mono ?_; rintro e W2 ⟨m2, rfl, H2⟩; have F2 := Lib.hid (F1.out.on H2); obtain ⟨⟨p0, p1, p2, p3⟩, _⟩ := cells4 F2.out.ha; obtain ⟨⟨r0, r1, r2, r3⟩, _⟩ := cells4 F2.out.hb; obtain ⟨⟨c0, c1, c2, c3⟩, ⟨d0, d1, d2, d3⟩⟩ := cells4 F2.out.hc))
        refine ⟨rfl, .tuple #[wordV 0, .int .i64 1], ?_, rfl, ?_⟩
        · simp [results, Tryz.f27, go_sem, wordV, c0, c1, c2, c3]
        · exact ((((F2.out.bel.setCell (by simp <;> omega) _).setCell (by simp <;> omega) _).setCell (by simp <;> omega) _).setCell (by simp <;> omega) _)
      | true =>
        cases vb with
        | false =>
          obtain ⟨n1, n2⟩ := HNE.out.1 (.inr (.inr (.inr rfl)))
          rw [n1, n2]
          clear n1 n2
          clear HD HI HNE
          go_enter Tryz.func27, Tryz.ntmps27
          go_wp2_with (first
              | (have hh := F0; clear hh; go_at_call 88; refine (HA.out _ F0.out.bel).mono ?_; rintro e W1 ⟨m1, rfl, H1⟩; have F1 := Lib.hid (F0.out.on H1); clear F0; obtain ⟨⟨q0, q1, q2, q3⟩, _⟩ := cells4 F1.out.hb)
              | (go_at_call 88; refine (HV.out _ F1.out.bel).mono ?_; rintro e W2 ⟨m2, rfl, H2⟩; have F2 := Lib.hid (F1.out.on H2); obtain ⟨⟨p0, p1, p2, p3⟩, _⟩ := cells4 F2.out.ha; obtain ⟨⟨r0, r1, r2, r3⟩, _⟩ := cells4 F2.out.hb; obtain ⟨⟨c0, c1, c2, c3⟩, ⟨d0, d1, d2, d3⟩⟩ := cells4 F2.out.hc))
          refine ⟨rfl, .tuple #[wordV 0, .int .i64 1], ?_, rfl, ?_⟩
          · simp [results, Tryz.f27, go_sem, wordV, c0, c1, c2, c3]
          · exact ((((F2.out.bel.setCell (by simp <;> omega) _).setCell (by simp <;> omega) _).setCell (by simp <;> omega) _).setCell (by simp <;> omega) _)
        | true =>
          have hno : ¬ (o < 0 ∨ 12 ≤ o ∨ (true = false) ∨ (true = false)) := by simp; omega
          have HNO := Lib.hid hno
          clear hno
          by_cases h10 : o < 10
          · have ho1 : (o == 10) = false := by simp; omega
            have ho2 : (o == 11) = false := by simp; omega
            by_cases hkx : xk = 0
            · by_cases hky : yk = 0
              · obtain ⟨n1, n2⟩ := HNE.out.2.2 HNO.out (fun h => h.2 hkx hky)
                rw [n1, n2]
                clear n1 n2
                have HDo := Lib.hid (HD.out h0' h12' (fun _ => HI.out rfl rfl hkx hky))
                clear HD HI HNE
                subst hkx
                subst hky
                go_enter Tryz.func27, Tryz.ntmps27
                go_wp2_with (first
                    | (have hh := F0; clear hh; go_at_call 88; refine (HA.out _ F0.out.bel).mono ?_; rintro e W1 ⟨m1, rfl, H1⟩; have F1 := Lib.hid (F0.out.on H1); clear F0; obtain ⟨⟨q0, q1, q2, q3⟩, _⟩ := cells4 F1.out.hb)
                    | (go_at_call 88; refine (HV.out _ F1.out.bel).mono ?_; rintro e W2 ⟨m2, rfl, H2⟩; have F2 := Lib.hid (F1.out.on H2); obtain ⟨⟨p0, p1, p2, p3⟩, _⟩ := cells4 F2.out.ha; obtain ⟨⟨r0, r1, r2, r3⟩, _⟩ := cells4 F2.out.hb; obtain ⟨⟨c0, c1, c2, c3⟩, ⟨d0, d1, d2, d3⟩⟩ := cells4 F2.out.hc)
                    | (go_at_call 89; refine (HDo.out _ F2.out.bel).mono ?_; rintro e W3 ⟨rfl, H3⟩; have F3 := Lib.hid (F2.out.on H3); obtain ⟨⟨e0, e1, e2, e3⟩, ⟨g0, g1, g2, g3⟩⟩ := cells4 F3.out.hc; unfold wordV))
                refine ⟨rfl, .tuple #[wordV z, .int .i64 0], ?_, rfl, ?_⟩
                · simp [results, Tryz.f27, go_sem, wordV, e0, e1, e2, e3]
                · exact ((((F3.out.bel.setCell (by simp <;> omega) _).setCell (by simp <;> omega) _).setCell (by simp <;> omega) _).setCell (by simp <;> omega) _)
              · obtain ⟨n1, n2⟩ := HNE.out.2.1 HNO.out h10 (fun _ => hky)
                rw [n1, n2]
                clear n1 n2
                clear HD HI HNE
                subst hkx
                have hyn : (yk != 0) = true := by simp [hky]
                have on1 : (o != 10) = true := by simp; omega
                have on2 : (o != 11) = true := by simp; omega
                go_enter Tryz.func27, Tryz.ntmps27
                go_wp2_with (first
                    | (have hh := F0; clear hh; go_at_call 88; refine (HA.out _ F0.out.bel).mono ?_; rintro e W1 ⟨m1, rfl, H1⟩; have F1 := Lib.hid (F0.out.on H1); clear F0; obtain ⟨⟨q0, q1, q2, q3⟩, _⟩ := cells4 F1.out.hb)
                    | (go_at_call 88; refine (HV.out _ F1.out.bel).mono ?_; rintro e W2 ⟨m2, rfl, H2⟩; have F2 := Lib.hid (F1.out.on H2); obtain ⟨⟨p0, p1, p2, p3⟩, _⟩ := cells4 F2.out.ha; obtain ⟨⟨r0, r1, r2, r3⟩, _⟩ := cells4 F2.out.hb; obtain ⟨⟨c0, c1, c2, c3⟩, ⟨d0, d1, d2, d3⟩⟩ := cells4 F2.out.hc))
                refine ⟨rfl, .tuple #[wordV 0, .int .i64 7], ?_, rfl, ?_⟩
                · simp [results, Tryz.f27, go_sem, wordV, c0, c1, c2, c3]
                · exact ((((F2.out.bel.setCell (by simp <;> omega) _).setCell (by simp <;> omega) _).setCell (by simp <;> omega) _).setCell (by simp <;> omega) _)
            · obtain ⟨n1, n2⟩ := HNE.out.2.1 HNO.out h10 (fun h => absurd h hkx)
              rw [n1, n2]
              clear n1 n2
              clear HD HI HNE
              have hxn : (xk != 0) = true := by simp [hkx]
              have on1 : (o != 10) = true := by simp; omega
              have on2 : (o != 11) = true := by simp; omega
              go_enter Tryz.func27, Tryz.ntmps27
              go_wp2_with (first
                  | (have hh := F0; clear hh; go_at_call 88; refine (HA.out _ F0.out.bel).mono ?_; rintro e W1 ⟨m1, rfl, H1⟩; have F1 := Lib.hid (F0.out.on H1); clear F0; obtain ⟨⟨q0, q1, q2, q3⟩, _⟩ := cells4 F1.out.hb)
                  | (go_at_call 88; refine (HV.out _ F1.out.bel).mono ?_; rintro e W2 ⟨m2, rfl, H2⟩; have F2 := Lib.hid (F1.out.on H2); obtain ⟨⟨p0, p1, p2, p3⟩, _⟩ := cells4 F2.out.ha; obtain ⟨⟨r0, r1, r2, r3⟩, _⟩ := cells4 F2.out.hb; obtain ⟨⟨c0, c1, c2, c3⟩, ⟨d0, d1, d2, d3⟩⟩ := cells4 F2.out.hc))
              refine ⟨rfl, .tuple #[wordV 0, .int .i64 7], ?_, rfl, ?_⟩
              · simp [results, Tryz.f27, go_sem, wordV, c0, c1, c2, c3]
              · exact ((((F2.out.bel.setCell (by simp <;> omega) _).setCell (by simp <;> omega) _).setCell (by simp <;> omega) _).setCell (by simp <;> omega) _)
          · obtain ⟨n1, n2⟩ := HNE.out.2.2 HNO.out (fun h => h10 h.1)
            rw [n1, n2]
            clear n1 n2
            have HDo := Lib.hid (HD.out h0' h12' (fun h => absurd h h10))
            clear HD HI HNE
            have ho : o = 10 ∨ o = 11 := by omega
            clear h10 h12 h0
            rcases ho with rfl | rfl
            all_goals
              go_enter Tryz.func27, Tryz.ntmps27
              go_wp2_with (first
                  | (have hh := F0; clear hh; go_at_call 88; refine (HA.out _ F0.out.bel).mono ?_; rintro e W1 ⟨m1, rfl, H1⟩; have F1 := Lib.hid (F0.out.on H1); clear F0; obtain ⟨⟨q0, q1, q2, q3⟩, _⟩ := cells4 F1.out.hb)
                  | (go_at_call 88; refine (HV.out _ F1.out.bel).mono ?_; rintro e W2 ⟨m2, rfl, H2⟩; have F2 := Lib.hid (F1.out.on H2); obtain ⟨⟨p0, p1, p2, p3⟩, _⟩ := cells4 F2.out.ha; obtain ⟨⟨r0, r1, r2, r3⟩, _⟩ := cells4 F2.out.hb; obtain ⟨⟨c0, c1, c2, c3⟩, ⟨d0, d1, d2, d3⟩⟩ := cells4 F2.out.hc)
                  | (go_at_call 89; refine (HDo.out _ F2.out.bel).mono ?_; rintro e W3 ⟨rfl, H3⟩; have F3 := Lib.hid (F2.out.on H3); obtain ⟨⟨e0, e1, e2, e3⟩, ⟨g0, g1, g2, g3⟩⟩ := cells4 F3.out.hc; unfold wordV))
              refine ⟨rfl, .tuple #[wordV z, .int .i64 0], ?_, rfl, ?_⟩
              · simp [results, Tryz.f27, go_sem, wordV, e0, e1, e2, e3]
              · exact ((((F3.out.bel.setCell (by simp <;> omega) _).setCell (by simp <;> omega) _).setCell (by simp <;> omega) _).setCell (by simp <;> omega) _)
end Go.Proofs.YtlbnfokedkpccaaGreat
