/- Which of two values comes first, as the reference of this layer says it. -/
import Derived.Test.YtlbnfokedkpccaaGreatCalm
set_option linter.all false
namespace Go.Proofs.YtlbnfokedkpccaaGreat
open Go.RowKit Go.Shelf
attribute [local go_sem] Oper.semAt_some

theorem less_cmp : ∀ (l m : List UInt8), ¬ l = m → Lib.compareBytes l m = if Op.bytesLess l m = true then -1 else 1
  | [], [], h => absurd rfl h
  | [], _ :: _, _ => by simp [Lib.compareBytes, Op.bytesLess]
  | _ :: _, [], _ => by simp [Lib.compareBytes, Op.bytesLess]
  | a :: l, b :: m, h => by
    simp only [Lib.compareBytes, Op.bytesLess]
    by_cases h1 : a < b
    · simp [h1]
    · by_cases h2 : b < a
      · have : ¬ a = b := fun e => by subst e; exact h1 h2
        simp [h1, h2, this]
      · have hab : a = b := by
          have h1' : ¬ a.toNat < b.toNat := h1
          have h2' : ¬ b.toNat < a.toNat := h2
          exact UInt8.toNat_inj.1 (by omega)
        subst hab
        have := less_cmp l m (fun e => h (by rw [e]))
        simp [h1, this]
set_option maxRecDepth 100000 in
set_option maxHeartbeats 8000000 in
theorem Compare05_any : ∀ (sz : Nat) (A B : LT), A.ht ≤ sz → ∀ (n₀ : Nat) (w : World), IsT n₀ w A → IsT n₀ w B → n₀ ≤ w.heap.size →
    Calls Tryz.prog 81 #[A.node.val, B.node.val] w fun e w' => e = .returned (.int .i64 (ordF A B)) ∧ Below w.heap.size w w' := by
  intro sz
  induction sz with
  | zero => intro A B hA; cases A; simp [LT.ht] at hA
  | succ sz ih =>
    intro A B hA n₀ w hTA hTB hn
    obtain ⟨⟨xk, xn, xs, xa, xl, xc⟩, l⟩ := A
    obtain ⟨⟨yk, yn, ys, ya, yl, yc⟩, m⟩ := B
    simp only [LT.ht] at hA
    cases hTA with
    | mk _ _ hlx _ hmx hcx hkx =>
    cases hTB with
    | mk _ _ hly _ hmy hcy hky =>
    simp only at hlx hcx hly hcy hmx hmy
    have hx8 : (xl : Int) ≤ 140737488351232 := by omega
    have hy8 : (yl : Int) ≤ 140737488351232 := by omega
    dsimp only [LT.node, Node.val]
    have IH := Lib.hid (fun (c : LT) (hc : c ∈ l) (d : LT) (hd : d ∈ m) => ih c d (by have := LT.ht_mem hc; omega) n₀)
    clear ih hA hmx hmy
    by_cases hk : xk = yk
    · subst hk
      by_cases hnn : xn = yn
      · subst hnn
        by_cases hss : xs = ys
        · subst hss
          have he : ordF (.mk ⟨xk, xn, xs, xa, xl, xc⟩ l) (.mk ⟨xk, xn, xs, ya, yl, yc⟩ m) = ordL l m := ordF_l rfl rfl rfl
          rw [he]
          clear he
          have HX := Lib.hid hcx
          have HY := Lib.hid hcy
          have HKX := Lib.hid hkx
          have HKY := Lib.hid hky
          have HLX := Lib.hid hlx
          have HLY := Lib.hid hly
          have HNn := Lib.hid hn
          have HQ := Lib.hid (box2 w #[.int .i64 xk, .int .i64 xn, .string xs, .slice xa xl xc] #[.int .i64 xk, .int .i64 xn, .string xs, .slice ya yl yc] 44)
          have hb2 : Below w.heap.size w ((w.alloc (.cells #[.int .i64 xk, .int .i64 xn, .string xs, .slice xa xl xc] 44)).alloc (.cells #[.int .i64 xk, .int .i64 xn, .string xs, .slice ya yl yc] 44)) := ((Below.refl _ _).alloc (Nat.le_refl _) _).alloc (by simp) _
          have HB2 := Lib.hid hb2
          obtain ⟨W2, hW2⟩ : ∃ W2, (w.alloc (.cells #[.int .i64 xk, .int .i64 xn, .string xs, .slice xa xl xc] 44)).alloc (.cells #[.int .i64 xk, .int .i64 xn, .string xs, .slice ya yl yc] 44) = W2 := ⟨_, rfl⟩
          have HW2 := Lib.hid hW2
          clear hcx hcy hkx hky hlx hly hn hb2 hW2
          go_enter Tryz.func81, Tryz.ntmps81
          go_upto_region 9 with fail
          rw [HW2.out]
          rw [HW2.out] at HQ HB2
          go_wp2
          go_loopw [5] (fun i wr => ∃ k : Nat, k ≤ xl ∧ k ≤ yl ∧ i = .int .i64 k ∧ ordL l m = ordL (l.drop k) (m.drop k) ∧ Below W2.heap.size W2 wr) (fun i _ => xl - (intOf i).toNat)
          case atStart => exact ⟨0, Nat.zero_le _, Nat.zero_le _, rfl, rfl, Below.refl _ _⟩
          case round =>
            obtain ⟨k, hkx, hky, rfl, heq, hb⟩ := hrel
            have HE := Lib.hid heq
            have HB := Lib.hid hb
            clear heq hb
            have HBW := Lib.hid (HB2.out.trans (HB.out.mono HB2.out.size))
            obtain ⟨⟨b0, b1, b2, b3⟩, _⟩ := cells4 ((HB.out.block _ (Array.getElem?_eq_some_iff.1 HQ.out.1).1).trans HQ.out.1)
            obtain ⟨⟨c0, c1, c2, c3⟩, _⟩ := cells4 ((HB.out.block _ (Array.getElem?_eq_some_iff.1 HQ.out.2).1).trans HQ.out.2)
            by_cases hlt : k < xl
            · by_cases hlt2 : k < yl
              · obtain ⟨c, hcc⟩ : ∃ c, l[k]? = some c := ⟨l[k]'(by have := HLX.out; omega), by rw [List.getElem?_eq_getElem]⟩
                obtain ⟨d, hdd⟩ : ∃ d, m[k]? = some d := ⟨m[k]'(by have := HLY.out; omega), by rw [List.getElem?_eq_getElem]⟩
                obtain ⟨b, off, rfl, hbb, e0, e1, e2, e3⟩ := HX.out k c hcc
                obtain ⟨b', off', rfl, hbb', e0', e1', e2', e3'⟩ := HY.out k d hdd
                have hn := HNn.out
                have hdr := ordL_drop hcc hdd
                have hC := fun W => IH.out c (List.mem_of_getElem? hcc) d (List.mem_of_getElem? hdd) W
                obtain ⟨r, hr⟩ : ∃ r, ordF c d = r := ⟨_, rfl⟩
                rw [hr] at hdr
                have HD := Lib.hid hdr
                have HC : Hid (∀ W, Below W2.heap.size W2 W → Calls Tryz.prog 81 #[.agg #[.int .i64 c.node.k, .int .i64 c.node.n, .string c.node.s, .slice c.node.a c.node.len c.node.cap], .agg #[.int .i64 d.node.k, .int .i64 d.node.n, .string d.node.s, .slice d.node.a d.node.len d.node.cap]] W fun e W' =>
                    e = .returned (.int .i64 r) ∧ Hid (Below W2.heap.size W2 W')) := Lib.hid fun W hW => by
                  have hbw := HB2.out.trans (hW.mono HB2.out.size)
                  have := hC W ((HKX.out c (List.mem_of_getElem? hcc)).bel (hbw.mono hn)) ((HKY.out d (List.mem_of_getElem? hdd)).bel (hbw.mono hn)) (by have := hbw.size; omega)
                  rw [hr] at this
                  exact this.mono fun e W' h => ⟨h.1, Lib.hid (hW.trans (h.2.mono hW.size))⟩
                have HKp : Hid (∀ W, Below W2.heap.size W2 W → (W.cell? ⟨w.heap.size, 3, none⟩ = some (.slice (some ⟨b, off, none⟩) xl xc) ∧ W.cell? ⟨w.heap.size + 1, 3, none⟩ = some (.slice (some ⟨b', off', none⟩) yl yc)) ∧ W.cell? ⟨b, off + k * 4, none⟩ = some (.int .i64 c.node.k) ∧ W.cell? ⟨b, off + k * 4 + 1, none⟩ = some (.int .i64 c.node.n) ∧ W.cell? ⟨b, off + k * 4 + 2, none⟩ = some (.string c.node.s) ∧ W.cell? ⟨b, off + k * 4 + 3, none⟩ = some (.slice c.node.a c.node.len c.node.cap) ∧
                    W.cell? ⟨b', off' + k * 4, none⟩ = some (.int .i64 d.node.k) ∧ W.cell? ⟨b', off' + k * 4 + 1, none⟩ = some (.int .i64 d.node.n) ∧ W.cell? ⟨b', off' + k * 4 + 2, none⟩ = some (.string d.node.s) ∧ W.cell? ⟨b', off' + k * 4 + 3, none⟩ = some (.slice d.node.a d.node.len d.node.cap)) := Lib.hid fun W hW => by
                  have hbw := HB2.out.trans (hW.mono HB2.out.size)
                  obtain ⟨⟨_, _, _, p3⟩, _⟩ := cells4 ((hW.block _ (Array.getElem?_eq_some_iff.1 HQ.out.1).1).trans HQ.out.1)
                  obtain ⟨⟨_, _, _, q3⟩, _⟩ := cells4 ((hW.block _ (Array.getElem?_eq_some_iff.1 HQ.out.2).1).trans HQ.out.2)
                  exact ⟨⟨p3, q3⟩, ((hbw.mono hn).cell (p := ⟨b, _, none⟩) hbb).trans e0, ((hbw.mono hn).cell (p := ⟨b, _, none⟩) hbb).trans e1, ((hbw.mono hn).cell (p := ⟨b, _, none⟩) hbb).trans e2, ((hbw.mono hn).cell (p := ⟨b, _, none⟩) hbb).trans e3, ((hbw.mono hn).cell (p := ⟨b', _, none⟩) hbb').trans e0', ((hbw.mono hn).cell (p := ⟨b', _, none⟩) hbb').trans e1', ((hbw.mono hn).cell (p := ⟨b', _, none⟩) hbb').trans e2', ((hbw.mono hn).cell (p := ⟨b', _, none⟩) hbb').trans e3'⟩
                obtain ⟨⟨g0, g1⟩, f0, f1, f2, f3, f4, f5, f6, f7⟩ := HKp.out _ HB.out
                have hk0 : (0 : Int) ≤ (k : Int) := by omega
                have hk1 : (k : Int) < (xl : Int) := by omega
                have hk2 : (k : Int) < (yl : Int) := by omega
                clear hdr hr hC hcc hdd hbb hbb' e0 e1 e2 e3 e0' e1' e2' e3' hn
                by_cases hr0 : r = 0
                all_goals
                  go_upto_region 12 with fail
                  go_region_held3 (fun w' => (w'.cell? ⟨w.heap.size, 3, none⟩ = some (.slice (some ⟨b, off, none⟩) xl xc) ∧ w'.cell? ⟨w.heap.size + 1, 3, none⟩ = some (.slice (some ⟨b', off', none⟩) yl yc)) ∧ w'.cell? ⟨b, off + k * 4, none⟩ = some (.int .i64 c.node.k) ∧ w'.cell? ⟨b, off + k * 4 + 1, none⟩ = some (.int .i64 c.node.n) ∧ w'.cell? ⟨b, off + k * 4 + 2, none⟩ = some (.string c.node.s) ∧ w'.cell? ⟨b, off + k * 4 + 3, none⟩ = some (.slice c.node.a c.node.len c.node.cap) ∧
                      w'.cell? ⟨b', off' + k * 4, none⟩ = some (.int .i64 d.node.k) ∧ w'.cell? ⟨b', off' + k * 4 + 1, none⟩ = some (.int .i64 d.node.n) ∧ w'.cell? ⟨b', off' + k * 4 + 2, none⟩ = some (.string d.node.s) ∧ w'.cell? ⟨b', off' + k * 4 + 3, none⟩ = some (.slice d.node.a d.node.len d.node.cap))
                    (go_keep)
                    (first
                      | (go_at_call 81; refine (HC.out _ ?_).mono ?_; (first | exact HB.out | exact HB.out.drew); rintro e W4 ⟨rfl, H4⟩; obtain ⟨⟨p0, p1⟩, s0, s1, s2, s3, s4, s5, s6, s7⟩ := HKp.out _ H4.out))
                  go_wp2
                · go_roundw
                  case rel =>
                    have h1 := HE.out
                    have h2 := HD.out
                    exact ⟨k + 1, by omega, by omega, by go_num, by rw [h1, h2, hr0]; rfl, H4.out⟩
                  case measure => simp [intOf]; omega
                · go_ret
                  have h1 := HE.out
                  have h2 := HD.out
                  exact ⟨ret_int (by rw [h1, h2]; unfold lex; rw [if_neg hr0]), HB2.out.trans (H4.out.mono HB2.out.size)⟩
              · have hc : Lib.compareInt (xl : Int) (yl : Int) = ordL l m := by
                  have h1 := HLX.out
                  have h2 := HLY.out
                  rw [HE.out, List.drop_eq_nil_iff.2 (show m.length ≤ k by omega), List.drop_eq_getElem_cons (show k < l.length by omega)]
                  unfold Lib.compareInt
                  rw [if_neg (by omega), if_pos (by omega)]
                  simp [ordL]
                have hNl := fun w => number_any (xl : Int) (yl : Int) w
                rw [hc] at hNl
                clear hc
                go_wp2_with (go_at_call 130; refine (hNl _).mono ?_; clear hNl; rintro e w' ⟨rfl, rfl⟩)
                go_ret
                exact ⟨rfl, HBW.out⟩
            · have hc : Lib.compareInt (xl : Int) (yl : Int) = ordL l m := by
                have h1 := HLX.out
                have h2 := HLY.out
                rw [HE.out, List.drop_eq_nil_iff.2 (show l.length ≤ k by omega)]
                by_cases h3 : k < yl
                · rw [List.drop_eq_getElem_cons (show k < m.length by omega)]
                  unfold Lib.compareInt
                  rw [if_pos (by omega)]
                  simp [ordL]
                · rw [List.drop_eq_nil_iff.2 (show m.length ≤ k by omega)]
                  unfold Lib.compareInt
                  rw [if_neg (by omega), if_neg (by omega)]
                  simp [ordL]
              have hNl := fun w => number_any (xl : Int) (yl : Int) w
              rw [hc] at hNl
              clear hc
              go_wp2_with (go_at_call 130; refine (hNl _).mono ?_; clear hNl; rintro e w' ⟨rfl, rfl⟩)
              go_ret
              exact ⟨rfl, HBW.out⟩
        · have hs' := str_ne hss
          have he : ordF (.mk ⟨xk, xn, xs, xa, xl, xc⟩ l) (.mk ⟨xk, xn, ys, ya, yl, yc⟩ m) = Lib.compareBytes xs.data.toList ys.data.toList := ordF_s rfl rfl hss
          rw [he]
          have HNE : Hid (¬ xs.data.toList = ys.data.toList) := Lib.hid (fun e => hss (by cases xs; cases ys; simp only at e; congr 1; exact Array.toList_inj.1 e))
          clear he IH hcx hcy hkx hky
          go_enter Tryz.func81, Tryz.ntmps81
          go_wp2
          all_goals
            rename_i hlt
            go_ret
            refine ⟨ret_int ?_, ((Below.refl _ _).alloc (Nat.le_refl _) _).alloc (by simp) _⟩
            rw [less_cmp _ _ HNE.out, ← Lib.toList_data, ← Lib.toList_data, hlt]
            rfl
      · have he : ordF (.mk ⟨xk, xn, xs, xa, xl, xc⟩ l) (.mk ⟨xk, yn, ys, ya, yl, yc⟩ m) = Lib.compareInt xn yn := ordF_n rfl hnn
        rw [he]
        clear he IH hcx hcy hkx hky
        have hN := fun w => number_any xn yn w
        obtain ⟨r, hr⟩ : ∃ r, Lib.compareInt xn yn = r := ⟨_, rfl⟩
        rw [hr] at hN ⊢
        clear hr
        go_enter Tryz.func81, Tryz.ntmps81
        go_wp2_with (go_at_call 130; refine (hN _).mono ?_; clear hN; rintro e w' ⟨rfl, rfl⟩)
        go_ret
        exact ⟨rfl, ((Below.refl _ _).alloc (Nat.le_refl _) _).alloc (by simp) _⟩
    · have he : ordF (.mk ⟨xk, xn, xs, xa, xl, xc⟩ l) (.mk ⟨yk, yn, ys, ya, yl, yc⟩ m) = Lib.compareInt xk yk := ordF_k hk
      rw [he]
      clear he IH hcx hcy hkx hky
      have hN := fun w => number_any xk yk w
      obtain ⟨r, hr⟩ : ∃ r, Lib.compareInt xk yk = r := ⟨_, rfl⟩
      rw [hr] at hN ⊢
      clear hr
      go_enter Tryz.func81, Tryz.ntmps81
      go_wp2_with (go_at_call 130; refine (hN _).mono ?_; clear hN; rintro e w' ⟨rfl, rfl⟩)
      go_ret
      exact ⟨rfl, ((Below.refl _ _).alloc (Nat.le_refl _) _).alloc (by simp) _⟩
end Go.Proofs.YtlbnfokedkpccaaGreat
