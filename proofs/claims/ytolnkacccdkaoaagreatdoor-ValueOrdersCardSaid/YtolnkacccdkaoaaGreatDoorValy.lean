/- Which of two values is ahead, as the reference says it, and as the program says it, of any two values. -/
import Derived.Test.YtolnkacccdkaoaaGreatDoorValx
set_option linter.all false
namespace Go.Proofs.YtolnkacccdkaoaaGreatDoor
open Go.RowKit Go.Shelf
attribute [local go_sem] Oper.semAt_some

theorem nil_of_len {l : List LT} {n : Nat} (h : n = l.length) (h0 : n = 0) : l = [] := List.eq_nil_of_length_eq_zero (by omega)
theorem bytes_empty {s : ByteArray} (h : s.data.toList.isEmpty = true) : s.data.toList = [] := List.isEmpty_iff.1 h
/-- The order of two valid values of one kind. -/
theorem ordF_ok {x y : Node} {l m : List LT} (h : x.k = y.k) (hx : okNode x.k x.n x.s.data.toList x.len = true) (hy : okNode y.k y.n y.s.data.toList y.len = true) (hl : x.len = l.length) (hm : y.len = m.length) :
    (x.k = 0 ∧ ordF (.mk x l) (.mk y m) = Lib.compareInt x.n y.n) ∨ (x.k = 1 ∧ ordF (.mk x l) (.mk y m) = Lib.compareBytes x.s.data.toList y.s.data.toList) ∨
    (x.k = 2 ∧ ordF (.mk x l) (.mk y m) = ordL l m) ∨ (x.k = 3 ∧ ordF (.mk x l) (.mk y m) = lex (Lib.compareInt x.n y.n) (ordL l m)) := by
  have z : ∀ a : Int, lex 0 a = a := fun a => by simp [lex]
  have z2 : ∀ a : Int, lex a 0 = a := fun a => by unfold lex; split <;> simp_all
  have c0 : ∀ a : Int, Lib.compareInt a a = 0 := fun a => (cmpI_zero a a).2 rfl
  have b0 : Lib.compareBytes [] [] = 0 := rfl
  have hy' := hy
  rw [← h] at hy'
  simp only [ordF]
  rw [← h, c0, z]
  by_cases k0 : x.k = 0
  · rw [k0, okNode_0] at hx hy'
    simp only [Bool.and_eq_true, decide_eq_true_eq] at hx hy'
    obtain rfl := nil_of_len hl hx.2
    obtain rfl := nil_of_len hm hy'.2
    exact .inl ⟨k0, by rw [bytes_empty hx.1.2, bytes_empty hy'.1.2, b0]; simp only [ordL, z, z2]⟩
  by_cases k1 : x.k = 1
  · rw [k1, okNode_1] at hx hy'
    simp only [Bool.and_eq_true, decide_eq_true_eq] at hx hy'
    obtain rfl := nil_of_len hl hx.2
    obtain rfl := nil_of_len hm hy'.2
    exact .inr (.inl ⟨k1, by rw [hx.1.1, hy'.1.1, c0]; simp only [ordL, z, z2]⟩)
  by_cases k2 : x.k = 2
  · rw [k2, okNode_2] at hx hy'
    simp only [Bool.and_eq_true, decide_eq_true_eq] at hx hy'
    exact .inr (.inr (.inl ⟨k2, by rw [hx.1.1, hy'.1.1, c0, bytes_empty hx.1.2, bytes_empty hy'.1.2, b0]; simp only [z]⟩))
  by_cases k3 : x.k = 3
  · rw [k3, okNode_3] at hx hy'
    simp only [Bool.and_eq_true, decide_eq_true_eq] at hx hy'
    exact .inr (.inr (.inr ⟨k3, by rw [bytes_empty hx.1.2, bytes_empty hy'.1.2, b0]; simp only [z]⟩))
  · rw [okNode_x _ _ _ k0 k1 k2 k3] at hx
    cases hx
theorem OkV.parts {x : Node} {l : List LT} (h : OkV (.mk x l)) : okNode x.k x.n x.s.data.toList x.len = true ∧ x.s.size ≤ 100 ∧ x.len ≤ 8 ∧ ∀ c ∈ l, OkV c := by
  cases h with
  | mk _ _ h1 h2 h3 h4 => exact ⟨h1, h2, h3, h4⟩

/-- What lies behind two boxes of values. -/
theorem box2 (w : World) (a b : Array Value) (t : TypeId) : ((w.alloc (.cells a t)).alloc (.cells b t)).heap[w.heap.size]? = some (.cells a t (0, 0)) ∧ ((w.alloc (.cells a t)).alloc (.cells b t)).heap[w.heap.size + 1]? = some (.cells b t (0, 0)) := by
  refine ⟨(Below.heap_alloc _ _ _ (by simp)).trans (World.alloc_heap_new w _), ?_⟩
  have := World.alloc_heap_new (w.alloc (.cells a t)) (.cells b t)
  rwa [World.size_alloc] at this

set_option maxRecDepth 100000 in
set_option maxHeartbeats 8000000 in
theorem Order_any : ∀ (sz : Nat) (A B : LT), A.ht ≤ sz → OkV A → OkV B → ∀ (n₀ : Nat) (w : World), IsT n₀ w A → IsT n₀ w B → n₀ ≤ w.heap.size →
    Calls Tryz.prog 63 #[A.node.val, B.node.val] w fun e w' => e = .returned (.int .i64 (ordF A B)) ∧ Below w.heap.size w w' := by
  intro sz
  induction sz with
  | zero => intro A B hA; cases A; simp [LT.ht] at hA
  | succ sz ih =>
    intro A B hA hOA hOB n₀ w hTA hTB hn
    obtain ⟨⟨xk, xn, xs, xa, xl, xc⟩, l⟩ := A
    obtain ⟨⟨yk, yn, ys, ya, yl, yc⟩, m⟩ := B
    simp only [LT.ht] at hA
    obtain ⟨hxo, hx1, hx8, hxk⟩ := hOA.parts
    obtain ⟨hyo, hy1, hy8, hyk⟩ := hOB.parts
    cases hTA with
    | mk _ _ hlx _ _ hcx hkx =>
    cases hTB with
    | mk _ _ hly _ _ hcy hky =>
    simp only at hlx hcx hly hcy hxo hx1 hx8 hyo hy1 hy8
    dsimp only [LT.node, Node.val]
    have IH := Lib.hid (fun (c : LT) (hc : c ∈ l) (d : LT) (hd : d ∈ m) => ih c d (by have := LT.ht_mem hc; omega) (hxk c hc) (hyk d hd) n₀)
    clear ih hA hOA hOB
    by_cases hk : xk = yk
    · subst hk
      have hN0 := fun w => numbers_any xk xk w
      rw [(cmpI_zero xk xk).2 rfl] at hN0
      rcases ordF_ok (x := ⟨xk, xn, xs, xa, xl, xc⟩) (y := ⟨xk, yn, ys, ya, yl, yc⟩) (l := l) (m := m) rfl hxo hyo hlx hly with ⟨hk0, he⟩ | ⟨hk0, he⟩ | hk0
      · simp only at hk0
        subst hk0
        rw [he]
        clear he IH hcx hcy hkx hky hxk hyk
        obtain ⟨r, hr⟩ : ∃ r, Lib.compareInt xn yn = r := ⟨_, rfl⟩
        have hN := fun w => numbers_any xn yn w
        simp only at hN ⊢
        rw [hr] at hN ⊢
        clear hr
        go_enter Tryz.func63, Tryz.ntmps63
        go_wp2_with (first
          | (go_at_call_of 92 (Value.int .i64 0); refine (hN0 _).mono ?_; clear hN0; rintro e w' ⟨rfl, rfl⟩)
          | (go_at_call_of 92 (Value.int .i64 xn); refine (hN _).mono ?_; clear hN; rintro e w' ⟨rfl, rfl⟩))
        go_ret
        exact ⟨rfl, ((Below.refl _ _).alloc (Nat.le_refl _) _).alloc (by simp) _⟩
      · simp only at hk0
        subst hk0
        rw [he]
        clear he IH hcx hcy hkx hky hxk hyk
        obtain ⟨r, hr⟩ : ∃ r, Lib.compareBytes xs.data.toList ys.data.toList = r := ⟨_, rfl⟩
        have hN := fun w => texts_any xs ys w hx1 hy1
        simp only at hN ⊢
        rw [hr] at hN ⊢
        clear hr
        go_enter Tryz.func63, Tryz.ntmps63
        go_wp2_with (first
          | (go_at_call 92; refine (hN0 _).mono ?_; clear hN0; rintro e w' ⟨rfl, rfl⟩)
          | (go_at_call 93; refine (hN _).mono ?_; clear hN; rintro e w' ⟨rfl, hb⟩))
        go_ret
        exact ⟨rfl, (((Below.refl _ _).alloc (Nat.le_refl _) _).alloc (by simp) _).trans (hb.mono (by simp; omega))⟩
      · by_cases hne : xk = 3 ∧ ¬ xn = yn
        · obtain ⟨rfl, hne⟩ := hne
          have he : ordF (.mk ⟨3, xn, xs, xa, xl, xc⟩ l) (.mk ⟨3, yn, ys, ya, yl, yc⟩ m) = Lib.compareInt xn yn := by
            rcases hk0 with ⟨h, _⟩ | ⟨_, h⟩
            · simp at h
            · rw [h]; unfold lex; rw [if_neg (fun e => hne ((cmpI_zero _ _).1 e))]
          have hr0 : ¬ Lib.compareInt xn yn = 0 := fun e => hne ((cmpI_zero _ _).1 e)
          rw [he]
          clear he IH hcx hcy hkx hky hxk hyk hk0
          obtain ⟨r, hr⟩ : ∃ r, Lib.compareInt xn yn = r := ⟨_, rfl⟩
          have hN := fun w => numbers_any xn yn w
          rw [hr] at hN hr0 ⊢
          clear hr hne
          go_enter Tryz.func63, Tryz.ntmps63
          go_wp2_with (first
            | (go_at_call_of 92 (Value.int .i64 3); refine (hN0 _).mono ?_; clear hN0; rintro e w' ⟨rfl, rfl⟩)
            | (go_at_call_of 92 (Value.int .i64 xn); refine (hN _).mono ?_; clear hN; rintro e w' ⟨rfl, rfl⟩))
          go_ret
          exact ⟨rfl, ((Below.refl _ _).alloc (Nat.le_refl _) _).alloc (by simp) _⟩
        · have he : ordF (.mk ⟨xk, xn, xs, xa, xl, xc⟩ l) (.mk ⟨xk, yn, ys, ya, yl, yc⟩ m) = ordL l m := by
            rcases hk0 with ⟨h, h2⟩ | ⟨h, h2⟩
            · exact h2
            · rw [h2]
              have : xn = yn := by
                by_cases e : xn = yn
                · exact e
                · exact absurd ⟨h, e⟩ hne
              simp only at this ⊢
              rw [this, (cmpI_zero yn yn).2 rfl]; simp [lex]
          have hkk : xk = 2 ∨ (xk = 3 ∧ xn = yn) := by
            rcases hk0 with ⟨h, _⟩ | ⟨h, _⟩
            · exact .inl h
            · exact .inr ⟨h, by
                by_cases e : xn = yn
                · exact e
                · exact absurd ⟨h, e⟩ hne⟩
          rw [he]
          clear he hk0 hne
          have HX := Lib.hid hcx
          have HY := Lib.hid hcy
          have HKX := Lib.hid hkx
          have HKY := Lib.hid hky
          have HLX := Lib.hid hlx
          have HLY := Lib.hid hly
          have HNn := Lib.hid hn
          have HQ := Lib.hid (box2 w #[.int .i64 xk, .int .i64 xn, .string xs, .slice xa xl xc] #[.int .i64 xk, .int .i64 yn, .string ys, .slice ya yl yc] 24)
          have hb2 : Below w.heap.size w ((w.alloc (.cells #[.int .i64 xk, .int .i64 xn, .string xs, .slice xa xl xc] 24)).alloc (.cells #[.int .i64 xk, .int .i64 yn, .string ys, .slice ya yl yc] 24)) := ((Below.refl _ _).alloc (Nat.le_refl _) _).alloc (by simp) _
          have HB2 := Lib.hid hb2
          obtain ⟨W2, hW2⟩ : ∃ W2, (w.alloc (.cells #[.int .i64 xk, .int .i64 xn, .string xs, .slice xa xl xc] 24)).alloc (.cells #[.int .i64 xk, .int .i64 yn, .string ys, .slice ya yl yc] 24) = W2 := ⟨_, rfl⟩
          have HW2 := Lib.hid hW2
          clear hcx hcy hkx hky hlx hly hn hb2 hW2 hxk hyk
          rcases hkk with rfl | ⟨rfl, rfl⟩
          all_goals
            try (have hN1 := fun w => numbers_any xn xn w)
            try (rw [(cmpI_zero xn xn).2 rfl] at hN1)
            go_enter Tryz.func63, Tryz.ntmps63
            go_upto_region 13 with (first
              | (go_at_call_of 92 (Value.int .i64 2); refine (hN0 _).mono ?_; clear hN0; rintro e w' ⟨rfl, rfl⟩)
              | (go_at_call_of 92 (Value.int .i64 3); refine (hN0 _).mono ?_; clear hN0; rintro e w' ⟨rfl, rfl⟩)
              | (go_at_call_of 92 (Value.int .i64 xn); refine (hN1 _).mono ?_; clear hN1; rintro e w' ⟨rfl, rfl⟩))
            rw [HW2.out]
            rw [HW2.out] at HQ HB2
            go_wp2
            go_loopw [7] (fun i wr => ∃ k : Nat, k ≤ xl ∧ k ≤ yl ∧ i = .int .i64 k ∧ ordL l m = ordL (l.drop k) (m.drop k) ∧ Below W2.heap.size W2 wr) (fun i _ => xl - (intOf i).toNat)
            case atStart => exact ⟨0, Nat.zero_le _, Nat.zero_le _, rfl, rfl, Below.refl _ _⟩
            case round =>
              obtain ⟨k, hkx, hky, rfl, heq, hb⟩ := hrel
              have HE := Lib.hid heq
              have HB := Lib.hid hb
              clear heq hb
              have HBW := Lib.hid (HB2.out.trans (HB.out.mono HB2.out.size))
              obtain ⟨⟨b0, b1, b2, b3⟩, _⟩ := cells4 ((HB.out.block _ (Array.getElem?_eq_some_iff.1 HQ.out.1).1).trans HQ.out.1)
              obtain ⟨⟨c0, c1, c2, c3⟩, _⟩ := cells4 ((HB.out.block _ (Array.getElem?_eq_some_iff.1 HQ.out.2).1).trans HQ.out.2)
              by_cases hlt : k < xl
              · by_cases hlt2 : k < yl
                · obtain ⟨c, hcc⟩ : ∃ c, l[k]? = some c := ⟨l[k]'(by have := HLX.out; omega), by rw [List.getElem?_eq_getElem]⟩
                  obtain ⟨d, hdd⟩ : ∃ d, m[k]? = some d := ⟨m[k]'(by have := HLY.out; omega), by rw [List.getElem?_eq_getElem]⟩
                  obtain ⟨b, off, rfl, hbb, e0, e1, e2, e3⟩ := HX.out k c hcc
                  obtain ⟨b', off', rfl, hbb', e0', e1', e2', e3'⟩ := HY.out k d hdd
                  have hn := HNn.out
                  have hdr := ordL_drop hcc hdd
                  have hC := fun W => IH.out c (List.mem_of_getElem? hcc) d (List.mem_of_getElem? hdd) W
                  obtain ⟨r, hr⟩ : ∃ r, ordF c d = r := ⟨_, rfl⟩
                  rw [hr] at hdr
                  have HD := Lib.hid hdr
                  have HC : Hid (∀ W, Below W2.heap.size W2 W → Calls Tryz.prog 63 #[.agg #[.int .i64 c.node.k, .int .i64 c.node.n, .string c.node.s, .slice c.node.a c.node.len c.node.cap], .agg #[.int .i64 d.node.k, .int .i64 d.node.n, .string d.node.s, .slice d.node.a d.node.len d.node.cap]] W fun e W' =>
                      e = .returned (.int .i64 r) ∧ Hid (Below W2.heap.size W2 W')) := Lib.hid fun W hW => by
                    have hbw := HB2.out.trans (hW.mono HB2.out.size)
                    have := hC W ((HKX.out c (List.mem_of_getElem? hcc)).bel (hbw.mono hn)) ((HKY.out d (List.mem_of_getElem? hdd)).bel (hbw.mono hn)) (by have := hbw.size; omega)
                    rw [hr] at this
                    exact this.mono fun e W' h => ⟨h.1, Lib.hid (hW.trans (h.2.mono hW.size))⟩
                  have HKp : Hid (∀ W, Below W2.heap.size W2 W → (W.cell? ⟨w.heap.size, 3, none⟩ = some (.slice (some ⟨b, off, none⟩) xl xc) ∧ W.cell? ⟨w.heap.size + 1, 3, none⟩ = some (.slice (some ⟨b', off', none⟩) yl yc)) ∧ W.cell? ⟨b, off + k * 4, none⟩ = some (.int .i64 c.node.k) ∧ W.cell? ⟨b, off + k * 4 + 1, none⟩ = some (.int .i64 c.node.n) ∧ W.cell? ⟨b, off + k * 4 + 2, none⟩ = some (.string c.node.s) ∧ W.cell? ⟨b, off + k * 4 + 3, none⟩ = some (.slice c.node.a c.node.len c.node.cap) ∧
                      W.cell? ⟨b', off' + k * 4, none⟩ = some (.int .i64 d.node.k) ∧ W.cell? ⟨b', off' + k * 4 + 1, none⟩ = some (.int .i64 d.node.n) ∧ W.cell? ⟨b', off' + k * 4 + 2, none⟩ = some (.string d.node.s) ∧ W.cell? ⟨b', off' + k * 4 + 3, none⟩ = some (.slice d.node.a d.node.len d.node.cap)) := Lib.hid fun W hW => by
                    have hbw := HB2.out.trans (hW.mono HB2.out.size)
                    obtain ⟨⟨_, _, _, p3⟩, _⟩ := cells4 ((hW.block _ (Array.getElem?_eq_some_iff.1 HQ.out.1).1).trans HQ.out.1)
                    obtain ⟨⟨_, _, _, q3⟩, _⟩ := cells4 ((hW.block _ (Array.getElem?_eq_some_iff.1 HQ.out.2).1).trans HQ.out.2)
                    exact ⟨⟨p3, q3⟩, ((hbw.mono hn).cell (p := ⟨b, _, none⟩) hbb).trans e0, ((hbw.mono hn).cell (p := ⟨b, _, none⟩) hbb).trans e1, ((hbw.mono hn).cell (p := ⟨b, _, none⟩) hbb).trans e2, ((hbw.mono hn).cell (p := ⟨b, _, none⟩) hbb).trans e3, ((hbw.mono hn).cell (p := ⟨b', _, none⟩) hbb').trans e0', ((hbw.mono hn).cell (p := ⟨b', _, none⟩) hbb').trans e1', ((hbw.mono hn).cell (p := ⟨b', _, none⟩) hbb').trans e2', ((hbw.mono hn).cell (p := ⟨b', _, none⟩) hbb').trans e3'⟩
                  obtain ⟨⟨g0, g1⟩, f0, f1, f2, f3, f4, f5, f6, f7⟩ := HKp.out _ HB.out
                  have hk0 : (0 : Int) ≤ (k : Int) := by omega
                  have hk1 : (k : Int) < (xl : Int) := by omega
                  have hk2 : (k : Int) < (yl : Int) := by omega
                  clear hdr hr hC hcc hdd hbb hbb' e0 e1 e2 e3 e0' e1' e2' e3' hn
                  by_cases hr0 : r = 0
                  all_goals
                    go_upto_region 16 with fail
                    go_region_held3 (fun w' => (w'.cell? ⟨w.heap.size, 3, none⟩ = some (.slice (some ⟨b, off, none⟩) xl xc) ∧ w'.cell? ⟨w.heap.size + 1, 3, none⟩ = some (.slice (some ⟨b', off', none⟩) yl yc)) ∧ w'.cell? ⟨b, off + k * 4, none⟩ = some (.int .i64 c.node.k) ∧ w'.cell? ⟨b, off + k * 4 + 1, none⟩ = some (.int .i64 c.node.n) ∧ w'.cell? ⟨b, off + k * 4 + 2, none⟩ = some (.string c.node.s) ∧ w'.cell? ⟨b, off + k * 4 + 3, none⟩ = some (.slice c.node.a c.node.len c.node.cap) ∧
                        w'.cell? ⟨b', off' + k * 4, none⟩ = some (.int .i64 d.node.k) ∧ w'.cell? ⟨b', off' + k * 4 + 1, none⟩ = some (.int .i64 d.node.n) ∧ w'.cell? ⟨b', off' + k * 4 + 2, none⟩ = some (.string d.node.s) ∧ w'.cell? ⟨b', off' + k * 4 + 3, none⟩ = some (.slice d.node.a d.node.len d.node.cap))
                      (go_keep)
                      (first
                        | (go_at_call 63; refine (HC.out _ ?_).mono ?_; (first | exact HB.out | exact HB.out.drew); rintro e W4 ⟨rfl, H4⟩; obtain ⟨⟨p0, p1⟩, s0, s1, s2, s3, s4, s5, s6, s7⟩ := HKp.out _ H4.out))
                    go_wp2
                  · go_roundw
                    case rel =>
                      have h1 := HE.out
                      have h2 := HD.out
                      exact ⟨k + 1, by omega, by omega, by go_num, by rw [h1, h2, hr0]; rfl, H4.out⟩
                    case measure => simp [intOf]; omega
                  · go_ret
                    have h1 := HE.out
                    have h2 := HD.out
                    exact ⟨ret_int (by rw [h1, h2]; unfold lex; rw [if_neg hr0]), HB2.out.trans (H4.out.mono HB2.out.size)⟩
                · have hc : Lib.compareInt (xl : Int) (yl : Int) = ordL l m := by
                    have h1 := HLX.out
                    have h2 := HLY.out
                    rw [HE.out, List.drop_eq_nil_iff.2 (show m.length ≤ k by omega), List.drop_eq_getElem_cons (show k < l.length by omega)]
                    unfold Lib.compareInt
                    rw [if_neg (by omega), if_pos (by omega)]
                    simp [ordL]
                  have hNl := fun w => numbers_any (xl : Int) (yl : Int) w
                  rw [hc] at hNl
                  clear hc
                  go_wp2_with (go_at_call 92; refine (hNl _).mono ?_; clear hNl; rintro e w' ⟨rfl, rfl⟩)
                  go_ret
                  exact ⟨rfl, HBW.out⟩
              · have hc : Lib.compareInt (xl : Int) (yl : Int) = ordL l m := by
                  have h1 := HLX.out
                  have h2 := HLY.out
                  rw [HE.out, List.drop_eq_nil_iff.2 (show l.length ≤ k by omega)]
                  by_cases h3 : k < yl
                  · rw [List.drop_eq_getElem_cons (show k < m.length by omega)]
                    unfold Lib.compareInt
                    rw [if_pos (by omega)]
                    simp [ordL]
                  · rw [List.drop_eq_nil_iff.2 (show m.length ≤ k by omega)]
                    unfold Lib.compareInt
                    rw [if_neg (by omega), if_neg (by omega)]
                    simp [ordL]
                have hNl := fun w => numbers_any (xl : Int) (yl : Int) w
                rw [hc] at hNl
                clear hc
                go_wp2_with (go_at_call 92; refine (hNl _).mono ?_; clear hNl; rintro e w' ⟨rfl, rfl⟩)
                go_ret
                exact ⟨rfl, HBW.out⟩
    · have he : ordF (.mk ⟨xk, xn, xs, xa, xl, xc⟩ l) (.mk ⟨yk, yn, ys, ya, yl, yc⟩ m) = Lib.compareInt xk yk := ordF_k hk
      have hr0 : ¬ Lib.compareInt xk yk = 0 := fun e => hk ((cmpI_zero _ _).1 e)
      rw [he]
      clear he IH hcx hcy hkx hky hxk hyk
      obtain ⟨r, hr⟩ : ∃ r, Lib.compareInt xk yk = r := ⟨_, rfl⟩
      have hN := fun w => numbers_any xk yk w
      rw [hr] at hN hr0 ⊢
      clear hr
      go_enter Tryz.func63, Tryz.ntmps63
      go_wp2_with (go_at_call 92; refine (hN _).mono ?_; clear hN; rintro e w' ⟨rfl, rfl⟩)
      go_ret
      exact ⟨rfl, ((Below.refl _ _).alloc (Nat.le_refl _) _).alloc (by simp) _⟩
end Go.Proofs.YtolnkacccdkaoaaGreatDoor
