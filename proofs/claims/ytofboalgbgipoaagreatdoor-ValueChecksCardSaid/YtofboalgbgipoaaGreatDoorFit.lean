/- Is a value of a type, as the reference says it. -/
import Derived.Test.YtofboalgbgipoaaGreatDoorMat
set_option linter.all false
namespace Go.Proofs.YtofboalgbgipoaaGreatDoor
open Go.RowKit Go.Shelf
attribute [local go_sem] Oper.semAt_some

set_option maxRecDepth 100000 in
set_option maxHeartbeats 8000000 in
theorem fits_any : ∀ (d : Nat) (T : YT), typedF d T = true → ∀ (V : LT), OkV V → ∀ (n₀ : Nat) (w : World), IsT n₀ w V → IsY n₀ w T → n₀ ≤ w.heap.size →
    Calls Tryz.prog 29 #[V.node.val, T.node.val] w fun e w' => e = .returned (.bool (matchF V T)) ∧ Below w.heap.size w w' := by
  intro d
  induction d with
  | zero => intro T h; simp [typedF] at h
  | succ d ih =>
    intro T hsh V hOV n₀ w hTV hTT hn
    obtain ⟨⟨tk, ta, tl, tc⟩, m⟩ := T
    obtain ⟨⟨xk, xn, xs, xa, xl, xc⟩, l⟩ := V
    simp only [typedF, Bool.and_eq_true, List.all_eq_true] at hsh
    obtain ⟨htk, ht8⟩ := tokNode_kinds hsh.1
    obtain ⟨hxo, hx1, hx8, hxk⟩ := hOV.four
    cases hTV with
    | mk _ _ hlx _ _ hcx hkx =>
    cases hTT with
    | mk _ _ hly _ hcy hky =>
    simp only at hlx hcx hly hcy hxo hx1 hx8 htk ht8
    dsimp only [LT.node, Node.val, YT.node, TNode.val]
    have IH := Lib.hid (fun (t : YT) (ht : t ∈ m) (c : LT) (hc : c ∈ l) => ih t (hsh.2 t ht) c (hxk c hc) n₀)
    have HX := Lib.hid hcx
    have HY := Lib.hid hcy
    have HKX := Lib.hid hkx
    have HKY := Lib.hid hky
    have HLX := Lib.hid hlx
    have HLY := Lib.hid hly
    have HNn := Lib.hid hn
    have HXO := Lib.hid hxo
    have HQ := Lib.hid (box2' w #[.int .i64 xk, .int .i64 xn, .string xs, .slice xa xl xc] #[.int .i64 tk, .slice ta tl tc] 24 27)
    have hb2 : Below w.heap.size w ((w.alloc (.cells #[.int .i64 xk, .int .i64 xn, .string xs, .slice xa xl xc] 24)).alloc (.cells #[.int .i64 tk, .slice ta tl tc] 27)) := ((Below.refl _ _).alloc (Nat.le_refl _) _).alloc (by simp) _
    have HB2 := Lib.hid hb2
    clear ih hOV hsh hcx hcy hkx hky hlx hly hn hxo hxk hb2
    rcases htk with rfl | rfl | rfl | rfl
    · clear IH HX HY HKX HKY HLX HLY HNn HXO HQ
      have e : matchF (.mk ⟨xk, xn, xs, xa, xl, xc⟩ l) (.mk ⟨0, ta, tl, tc⟩ m) = decide (xk = 0) := by simp [matchF, LT.node] <;> (first | rfl | congr)
      rw [e]
      by_cases hk : xk = 0
      · subst hk
        go_enter Tryz.func29, Tryz.ntmps29
        go_wp2
        go_ret
        exact ⟨ret_bool (by simp), HB2.out⟩
      · go_enter Tryz.func29, Tryz.ntmps29
        go_wp2
        go_ret
        exact ⟨ret_bool (by simp [hk]), HB2.out⟩
    · clear IH HX HY HKX HKY HLX HLY HNn HXO HQ
      have e : matchF (.mk ⟨xk, xn, xs, xa, xl, xc⟩ l) (.mk ⟨1, ta, tl, tc⟩ m) = decide (xk = 1) := by simp [matchF, LT.node] <;> (first | rfl | congr)
      rw [e]
      by_cases hk : xk = 1
      · subst hk
        go_enter Tryz.func29, Tryz.ntmps29
        go_wp2
        go_ret
        exact ⟨ret_bool (by simp), HB2.out⟩
      · go_enter Tryz.func29, Tryz.ntmps29
        go_wp2
        go_ret
        exact ⟨ret_bool (by simp [hk]), HB2.out⟩
    · have e : matchF (.mk ⟨xk, xn, xs, xa, xl, xc⟩ l) (.mk ⟨2, ta, tl, tc⟩ m) = (decide (xk = 2) && (decide (xl = tl) && matchAll l m)) := by simp [matchF, LT.node, LT.kids] <;> (first | rfl | congr)
      rw [e]
      clear e
      by_cases hk : xk = 2
      · subst hk
        have HQ2 := Lib.hid HQ.out
        by_cases hll : xl = tl
        · have HLL := Lib.hid hll
          have hll_ : xl = tl := hll
          clear hll
          rw [show (decide ((2 : Int) = 2) && (decide (xl = tl) && matchAll l m)) = matchAll l m by simp [HLL.out]]
          clear HQ
          subst hll_
          obtain ⟨hq0, hq1⟩ := HQ2.out
          go_enter Tryz.func29, Tryz.ntmps29
          go_wp2_with (fail)
          go_loopw [5, 6] (fun p i wr => ∃ k : Nat, k ≤ xl ∧ i = .int .i64 k ∧ (∃ q : Bool, p = .bool q ∧ Hid ((q && matchAll (l.drop k) (m.drop k)) = matchAll l m)) ∧ Hid (Below w.heap.size w wr ∧ wr.heap[w.heap.size]? = some (.cells #[.int .i64 2, .int .i64 xn, .string xs, .slice xa xl xc] 24 (0, 0)) ∧ wr.heap[w.heap.size + 1]? = some (.cells #[.int .i64 2, .slice ta xl tc] 27 (0, 0)))) (fun _ i _ => xl - (intOf i).toNat)
          case atStart => exact ⟨0, Nat.zero_le _, rfl, ⟨true, rfl, Lib.hid (by simp)⟩, Lib.hid ⟨HB2.out, hq0, hq1⟩⟩
          case round =>
            obtain ⟨k, hk, rfl, ⟨q, rfl, HE⟩, HW⟩ := hrel
            clear hq0 hq1
            obtain ⟨⟨_, _, _, x3⟩, _⟩ := cells4 HW.out.2.1
            obtain ⟨⟨_, y1⟩, _⟩ := cells2 HW.out.2.2
            cases q with
            | false =>
              clear x3 y1
              go_wp2_with (fail)
              go_ret
              exact ⟨ret_boolF (by have := HE.out; simpa using this), HW.out.1⟩
            | true =>
            by_cases hlt : k < xl
            · have hkl : k < l.length := by have := HLX.out; omega
              have hkm : k < m.length := by have := HLY.out; omega
              obtain ⟨c, hcc⟩ : ∃ c, l[k]? = some c := ⟨l[k], by simp [hkl]⟩
              obtain ⟨t, htt⟩ : ∃ t, m[k]? = some t := ⟨m[k], by simp [hkm]⟩
              obtain ⟨b, off, rfl, hbb, e0, e1, e2, e3⟩ := HX.out k c hcc
              obtain ⟨b', off', rfl, hbb', g0, g1⟩ := HY.out k t htt
              have hn := HNn.out
              have hbw : Below w.heap.size w wr := HW.out.1
              have f0 := ((hbw.mono hn).cell (p := ⟨b, off + k * 4, none⟩) hbb).trans e0
              have f1 := ((hbw.mono hn).cell (p := ⟨b, off + k * 4 + 1, none⟩) hbb).trans e1
              have f2 := ((hbw.mono hn).cell (p := ⟨b, off + k * 4 + 2, none⟩) hbb).trans e2
              have f3 := ((hbw.mono hn).cell (p := ⟨b, off + k * 4 + 3, none⟩) hbb).trans e3
              have d0 := ((hbw.mono hn).cell (p := ⟨b', off' + k * 2, none⟩) hbb').trans g0
              have d1 := ((hbw.mono hn).cell (p := ⟨b', off' + k * 2 + 1, none⟩) hbb').trans g1
              have hdr := matchAll_drop hcc htt
              have hC : ∀ W, Below w.heap.size w W → Calls Tryz.prog 29 #[c.node.val, t.node.val] W fun e w' => e = .returned (.bool (matchF c t)) ∧ Below W.heap.size W w' := fun W hW =>
                IH.out t (List.mem_of_getElem? htt) c (List.mem_of_getElem? hcc) W ((HKX.out c (List.mem_of_getElem? hcc)).bel (hW.mono hn)) ((HKY.out t (List.mem_of_getElem? htt)).bel (hW.mono hn)) (by have := hW.size; omega)
              obtain ⟨r, hr⟩ : ∃ r, matchF c t = r := ⟨_, rfl⟩
              rw [hr] at hC hdr
              have HE2 : Hid ((r && matchAll (l.drop (k + 1)) (m.drop (k + 1))) = matchAll l m) := Lib.hid (by have h := HE.out; rw [Bool.true_and, hdr] at h; exact h)
              obtain ⟨⟨ck, cn, cs, ca, cl, cc⟩, ckids⟩ := c
              obtain ⟨⟨uk, ua, ul, uc⟩, ukids⟩ := t
              dsimp only [LT.node, Node.val, YT.node, TNode.val] at f0 f1 f2 f3 d0 d1 hC
              have k0 : (0 : Int) ≤ (k : Int) := by omega
              have k1 : (k : Int) < (xl : Int) := by omega
              have hI' : Hid (∀ W, Below wr.heap.size wr W → Calls Tryz.prog 29 #[.agg #[.int .i64 ck, .int .i64 cn, .string cs, .slice ca cl cc], .agg #[.int .i64 uk, .slice ua ul uc]] W fun e w' => e = .returned (.bool r) ∧ Hid (Below wr.heap.size wr w') ∧ (w'.cell? ⟨w.heap.size, 3, none⟩ = some (.slice (some ⟨b, off, none⟩) xl xc) ∧ w'.cell? ⟨w.heap.size + 1, 1, none⟩ = some (.slice (some ⟨b', off', none⟩) xl tc) ∧ w'.cell? ⟨b, off + k * 4, none⟩ = some (.int .i64 ck) ∧ w'.cell? ⟨b, off + k * 4 + 1, none⟩ = some (.int .i64 cn) ∧ w'.cell? ⟨b, off + k * 4 + 2, none⟩ = some (.string cs) ∧ w'.cell? ⟨b, off + k * 4 + 3, none⟩ = some (.slice ca cl cc) ∧ w'.cell? ⟨b', off' + k * 2, none⟩ = some (.int .i64 uk) ∧ w'.cell? ⟨b', off' + k * 2 + 1, none⟩ = some (.slice ua ul uc))) := Lib.hid fun W hW => (hC W (hbw.trans (hW.mono hbw.size))).mono fun e w' h => by
                have hB := hW.trans (h.2.mono hW.size)
                have kp : ∀ {b o : Nat} {v : Value}, wr.cell? ⟨b, o, none⟩ = some v → w'.cell? ⟨b, o, none⟩ = some v := fun {b o v} hc => (hB.cell (p := ⟨b, o, none⟩) (cell_lt hc)).trans hc
                exact ⟨h.1, Lib.hid hB, kp x3, kp y1, kp f0, kp f1, kp f2, kp f3, kp d0, kp d1⟩
              clear hC hr hdr hcc htt hkl hkm hbb hbb' e0 e1 e2 e3 g0 g1 HE hbw hn
              go_upto_region 9 with (fail)
              go_region_held3 (fun w' => w'.cell? ⟨w.heap.size, 3, none⟩ = some (.slice (some ⟨b, off, none⟩) xl xc) ∧ w'.cell? ⟨w.heap.size + 1, 1, none⟩ = some (.slice (some ⟨b', off', none⟩) xl tc) ∧ w'.cell? ⟨b, off + k * 4, none⟩ = some (.int .i64 ck) ∧ w'.cell? ⟨b, off + k * 4 + 1, none⟩ = some (.int .i64 cn) ∧ w'.cell? ⟨b, off + k * 4 + 2, none⟩ = some (.string cs) ∧ w'.cell? ⟨b, off + k * 4 + 3, none⟩ = some (.slice ca cl cc) ∧ w'.cell? ⟨b', off' + k * 2, none⟩ = some (.int .i64 uk) ∧ w'.cell? ⟨b', off' + k * 2 + 1, none⟩ = some (.slice ua ul uc))
                (go_keep)
                (first
                  | (go_at_call 29; refine (hI'.out _ ?_).mono ?_; (first | exact Below.refl _ _ | exact (Below.refl _ _).drew); rintro e W4 ⟨rfl, H4, s0, s1, s2, s3, s4, s5, s6, s7⟩))
              go_wp2_with (fail)
              go_roundw
              case rel =>
                exact ⟨k + 1, by omega, by go_num, ⟨r, rfl, HE2⟩, Lib.hid ⟨HW.out.1.trans (H4.out.mono HW.out.1.size), (H4.out.block _ (Array.getElem?_eq_some_iff.1 HW.out.2.1).1).trans HW.out.2.1, (H4.out.block _ (Array.getElem?_eq_some_iff.1 HW.out.2.2).1).trans HW.out.2.2⟩⟩
              case measure => simp [intOf]; omega
            · have hk1 : l.drop k = [] := List.drop_eq_nil_iff.2 (by have := HLX.out; omega)
              have hk2 : m.drop k = [] := List.drop_eq_nil_iff.2 (by have := HLY.out; omega)
              have HK := Lib.hid (And.intro hk1 hk2)
              clear hk1 hk2
              go_wp2_with (fail)
              go_ret
              have h1 := HE.out
              have h2 := HK.out
              exact ⟨ret_boolF (by rw [← h1, h2.1, h2.2]; rfl), HW.out.1⟩
        · have hlB : ((xl : Int) == (tl : Int)) = false := by simp; omega
          have hlC : (decide ((xl : Int) = (tl : Int))) = false := by simp; omega
          clear IH HX HY HKX HKY HLX HLY HNn HXO HQ
          go_enter Tryz.func29, Tryz.ntmps29
          go_wp2_with (fail)
          go_loopw [5, 6] (fun p i wr => p = .bool false ∧ i = .int .i64 0 ∧ Hid (Below w.heap.size w wr)) (fun _ _ _ => 0)
          case atStart => exact ⟨rfl, rfl, HB2⟩
          case round =>
            obtain ⟨rfl, rfl, HW⟩ := hrel
            go_wp2_with (fail)
            go_ret
            exact ⟨ret_bool (by simp [hll]), HW.out⟩
      · clear IH HX HY HKX HKY HLX HLY HNn HXO HQ
        go_enter Tryz.func29, Tryz.ntmps29
        go_wp2_with (fail)
        go_loopw [5, 6] (fun p i wr => p = .bool false ∧ i = .int .i64 0 ∧ Hid (Below w.heap.size w wr)) (fun _ _ _ => 0)
        case atStart => exact ⟨rfl, rfl, HB2⟩
        case round =>
          obtain ⟨rfl, rfl, HW⟩ := hrel
          go_wp2_with (fail)
          go_ret
          exact ⟨ret_bool (by simp [hk]), HW.out⟩
    · skip
      obtain ⟨W2, hW2⟩ : ∃ W2, (w.alloc (.cells #[.int .i64 xk, .int .i64 xn, .string xs, .slice xa xl xc] 24)).alloc (.cells #[.int .i64 3, .slice ta tl tc] 27) = W2 := ⟨_, rfl⟩
      have HQ1 := HQ.out
      rw [hW2] at HQ1 HB2
      obtain ⟨⟨x0, x1, x2, x3⟩, _⟩ := cells4 HQ1.1
      obtain ⟨⟨y0, y1⟩, _⟩ := cells2 HQ1.2
      by_cases hk : xk = 3
      · subst hk
        by_cases hlt : xn < tl
        · have hxo := HXO.out
          simp [okNode] at hxo
          have hlx := HLX.out
          have hly := HLY.out
          obtain ⟨n, rfl⟩ : ∃ n : Nat, xn = n := ⟨xn.toNat, by omega⟩
          obtain ⟨c, rfl⟩ : ∃ c, l = [c] := by
            match l, hlx with
            | [c], _ => exact ⟨c, rfl⟩
            | [], h => simp at h; omega
            | _ :: _ :: _, h => simp at h; omega
          have hnm : n < m.length := by omega
          obtain ⟨t, htt⟩ : ∃ t, m[n]? = some t := ⟨m[n], by simp [hnm]⟩
          have hres : matchF (.mk ⟨3, n, xs, xa, xl, xc⟩ [c]) (.mk ⟨3, ta, tl, tc⟩ m) = matchF c t := by
            have hlt' : (n : Int) < (tl : Int) := hlt
            simp [matchF, LT.node, LT.kids, matchAt_get htt]; omega
          rw [hres]
          clear hres
          obtain ⟨b, off, rfl, hbb, e0, e1, e2, e3⟩ := HX.out 0 c (by simp)
          obtain ⟨b', off', rfl, hbb', g0, g1⟩ := HY.out n t htt
          simp only [Nat.zero_mul, Nat.add_zero] at e0 e1 e2 e3
          have hn := HNn.out
          have hbw : Below w.heap.size w W2 := HB2.out
          have f0 := ((hbw.mono hn).cell (p := ⟨b, off, none⟩) hbb).trans e0
          have f1 := ((hbw.mono hn).cell (p := ⟨b, off + 1, none⟩) hbb).trans e1
          have f2 := ((hbw.mono hn).cell (p := ⟨b, off + 2, none⟩) hbb).trans e2
          have f3 := ((hbw.mono hn).cell (p := ⟨b, off + 3, none⟩) hbb).trans e3
          have d0 := ((hbw.mono hn).cell (p := ⟨b', off' + n * 2, none⟩) hbb').trans g0
          have d1 := ((hbw.mono hn).cell (p := ⟨b', off' + n * 2 + 1, none⟩) hbb').trans g1
          have hC : ∀ W, Below w.heap.size w W → Calls Tryz.prog 29 #[c.node.val, t.node.val] W fun e w' => e = .returned (.bool (matchF c t)) ∧ Below W.heap.size W w' := fun W hW =>
            IH.out t (List.mem_of_getElem? htt) c (by simp) W ((HKX.out c (by simp)).bel (hW.mono hn)) ((HKY.out t (List.mem_of_getElem? htt)).bel (hW.mono hn)) (by have := hW.size; omega)
          obtain ⟨r, hr⟩ : ∃ r, matchF c t = r := ⟨_, rfl⟩
          rw [hr] at hC ⊢
          have n0 : (0 : Int) ≤ (n : Int) := by omega
          have n1 : (n : Int) < (tl : Int) := hlt
          have hl1 : (xl : Int) = 1 := by simp at hlx; omega
          have hl1' : xl = 1 := by omega
          subst hl1'
          obtain ⟨⟨ck, cn, cs, ca, cl, cc⟩, ckids⟩ := c
          obtain ⟨⟨uk, ua, ul, uc⟩, ukids⟩ := t
          dsimp only [LT.node, Node.val, YT.node, TNode.val] at f0 f1 f2 f3 d0 d1 hC
          have hI' : Hid (∀ W, Below W2.heap.size W2 W → Calls Tryz.prog 29 #[.agg #[.int .i64 ck, .int .i64 cn, .string cs, .slice ca cl cc], .agg #[.int .i64 uk, .slice ua ul uc]] W fun e w' => e = .returned (.bool r) ∧ Hid (Below W2.heap.size W2 w') ∧ (w'.cell? ⟨w.heap.size, 0, none⟩ = some (.int .i64 3) ∧ w'.cell? ⟨w.heap.size, 1, none⟩ = some (.int .i64 n) ∧ w'.cell? ⟨w.heap.size, 3, none⟩ = some (.slice (some ⟨b, off, none⟩) 1 xc) ∧ w'.cell? ⟨w.heap.size + 1, 1, none⟩ = some (.slice (some ⟨b', off', none⟩) tl tc) ∧ w'.cell? ⟨b, off, none⟩ = some (.int .i64 ck) ∧ w'.cell? ⟨b, off + 1, none⟩ = some (.int .i64 cn) ∧ w'.cell? ⟨b, off + 2, none⟩ = some (.string cs) ∧ w'.cell? ⟨b, off + 3, none⟩ = some (.slice ca cl cc) ∧ w'.cell? ⟨b', off' + n * 2, none⟩ = some (.int .i64 uk) ∧ w'.cell? ⟨b', off' + n * 2 + 1, none⟩ = some (.slice ua ul uc))) := Lib.hid fun W hW => (hC W (hbw.trans (hW.mono hbw.size))).mono fun e w' h => by
            have hB := hW.trans (h.2.mono hW.size)
            have kp : ∀ {b o : Nat} {v : Value}, W2.cell? ⟨b, o, none⟩ = some v → w'.cell? ⟨b, o, none⟩ = some v := fun {b o v} hc => (hB.cell (p := ⟨b, o, none⟩) (cell_lt hc)).trans hc
            exact ⟨h.1, Lib.hid hB, kp x0, kp x1, kp x3, kp y1, kp f0, kp f1, kp f2, kp f3, kp d0, kp d1⟩
          clear hC hr htt hnm hbb hbb' e0 e1 e2 e3 g0 g1 hbw hn hlx hly hxo hlt IH HX HY HKX HKY HLX HLY HNn HXO HQ HQ1 hx1 hx8 ht8 x2 hl1
          go_enter Tryz.func29, Tryz.ntmps29
          go_upto_region 2 with (fail)
          try rw [hW2]
          clear hW2
          go_region_held3 (fun w' => w'.cell? ⟨w.heap.size, 0, none⟩ = some (.int .i64 3) ∧ w'.cell? ⟨w.heap.size, 1, none⟩ = some (.int .i64 n) ∧ w'.cell? ⟨w.heap.size, 3, none⟩ = some (.slice (some ⟨b, off, none⟩) 1 xc) ∧ w'.cell? ⟨w.heap.size + 1, 1, none⟩ = some (.slice (some ⟨b', off', none⟩) tl tc) ∧ w'.cell? ⟨b, off, none⟩ = some (.int .i64 ck) ∧ w'.cell? ⟨b, off + 1, none⟩ = some (.int .i64 cn) ∧ w'.cell? ⟨b, off + 2, none⟩ = some (.string cs) ∧ w'.cell? ⟨b, off + 3, none⟩ = some (.slice ca cl cc) ∧ w'.cell? ⟨b', off' + n * 2, none⟩ = some (.int .i64 uk) ∧ w'.cell? ⟨b', off' + n * 2 + 1, none⟩ = some (.slice ua ul uc))
            (go_keep)
            (first
              | (go_at_call 29; refine (hI'.out _ ?_).mono ?_; (first | exact Below.refl _ _ | exact (Below.refl _ _).drew); rintro e W4 ⟨rfl, H4, s0, s1, s2, s3, s4, s5, s6, s7, s8, s9⟩))
          go_wp2_with (fail)
          go_ret
          exact ⟨rfl, HB2.out.trans (H4.out.mono HB2.out.size)⟩
        · rw [show matchF (.mk ⟨3, xn, xs, xa, xl, xc⟩ l) (.mk ⟨3, ta, tl, tc⟩ m) = false by simp [matchF, LT.node]; exact fun h => absurd (of_decide_eq_true h) hlt]
          clear IH HX HY HKX HKY HLX HLY HNn HXO HQ HQ1 hx1 hx8 ht8 x2
          go_enter Tryz.func29, Tryz.ntmps29
          go_upto_region 2 with (fail)
          try rw [hW2]
          clear hW2
          go_quiet (fail)
          go_wp2_with (fail)
          go_ret
          exact ⟨rfl, HB2.out.trans ((below_drewM _ _).mono HB2.out.size)⟩
      · have hkf : (xk == 3) = false := by simpa using hk
        rw [show matchF (.mk ⟨xk, xn, xs, xa, xl, xc⟩ l) (.mk ⟨3, ta, tl, tc⟩ m) = false by simp [matchF, LT.node, hk]]
        clear IH HX HY HKX HKY HLX HLY HNn HXO HQ HQ1 hx1 hx8 ht8 x1 x2 x3
        go_enter Tryz.func29, Tryz.ntmps29
        go_upto_region 2 with (fail)
        try rw [hW2]
        clear hW2
        go_quiet (fail)
        go_wp2_with (fail)
        go_ret
        exact ⟨rfl, HB2.out.trans ((below_drewM _ _).mono HB2.out.size)⟩
end Go.Proofs.YtofboalgbgipoaaGreatDoor
