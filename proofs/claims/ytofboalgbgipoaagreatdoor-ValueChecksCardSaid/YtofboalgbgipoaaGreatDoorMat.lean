/- Is a value of a type, as the program says it. -/
import Derived.Test.YtofboalgbgipoaaGreatDoorTypx
import Derived.Test.YtofboalgbgipoaaGreatDoorValzv
import Derived.Test.YtofboalgbgipoaaGreatDoorValt
import Derived.Deep.QuietTactic
import Derived.BigQuiet
import Derived.Deep.RegionHeld3
import Derived.Deep.Cut
set_option linter.all false
namespace Go.Proofs.YtofboalgbgipoaaGreatDoor
open Go.RowKit Go.Shelf
attribute [local go_sem] Oper.semAt_some

theorem OkV.four {x : Node} {l : List LT} (h : OkV (.mk x l)) : okNode x.k x.n x.s.data.toList x.len = true ∧ x.s.size ≤ 100 ∧ x.len ≤ 8 ∧ ∀ c ∈ l, OkV c := by
  cases h with
  | mk _ _ h1 h2 h3 h4 => exact ⟨h1, h2, h3, h4⟩
mutual
/-- Is a valid value of a valid type? -/
def matchF (v : LT) : YT → Bool
  | .mk t m =>
    if t.k = 0 then decide (v.node.k = 0)
    else if t.k = 1 then decide (v.node.k = 1)
    else if t.k = 3 then decide (v.node.k = 3) && (decide (v.node.n < t.len) && (match v.kids with | c :: _ => matchAt c v.node.n.toNat m | [] => false))
    else decide (v.node.k = 2) && (decide (v.node.len = t.len) && matchAll v.kids m)
def matchAt (v : LT) : Nat → List YT → Bool
  | _, [] => false
  | 0, t :: _ => matchF v t
  | n + 1, _ :: m => matchAt v n m
def matchAll : List LT → List YT → Bool
  | [], [] => true
  | [], _ :: _ => false
  | _ :: _, [] => false
  | v :: l, t :: m => matchF v t && matchAll l m
end
theorem matchAt_get {v : LT} : ∀ {m : List YT} {n : Nat} {t : YT}, m[n]? = some t → matchAt v n m = matchF v t
  | [], n, t, h => by simp at h
  | x :: m, 0, t, h => by simp at h; subst h; simp [matchAt]
  | x :: m, n + 1, t, h => by simp at h; simp [matchAt, matchAt_get h]
theorem matchAll_drop {l : List LT} {m : List YT} {k : Nat} {c : LT} {t : YT} (hc : l[k]? = some c) (ht : m[k]? = some t) : matchAll (l.drop k) (m.drop k) = (matchF c t && matchAll (l.drop (k + 1)) (m.drop (k + 1))) := by
  have h1 := List.getElem?_eq_some_iff.1 hc
  have h2 := List.getElem?_eq_some_iff.1 ht
  rw [List.drop_eq_getElem_cons h1.1, List.drop_eq_getElem_cons h2.1, h1.2, h2.2]
  simp only [matchAll]
theorem box2' (w : World) (a b : Array Value) (t u : TypeId) : ((w.alloc (.cells a t)).alloc (.cells b u)).heap[w.heap.size]? = some (.cells a t (0, 0)) ∧ ((w.alloc (.cells a t)).alloc (.cells b u)).heap[w.heap.size + 1]? = some (.cells b u (0, 0)) := by
  refine ⟨(Below.heap_alloc _ _ _ (by simp)).trans (World.alloc_heap_new w _), ?_⟩
  have := World.alloc_heap_new (w.alloc (.cells a t)) (.cells b u)
  rwa [World.size_alloc] at this
theorem tokNode_kinds {k : Int} {len : Nat} (h : tokNode k len = true) : (k = 0 ∨ k = 1 ∨ k = 2 ∨ k = 3) ∧ len ≤ 8 := by
  refine ⟨?_, tokNode_small h⟩
  by_cases h0 : k = 0
  · exact .inl h0
  by_cases h1 : k = 1
  · exact .inr (.inl h1)
  by_cases h2 : k = 2
  · exact .inr (.inr (.inl h2))
  by_cases h3 : k = 3
  · exact .inr (.inr (.inr h3))
  · simp [tokNode, h0, h1, h2, h3] at h

theorem below_drewM (W : World) (n : Nat) : Below W.heap.size W (W.drewN n) := by
  first
    | exact ⟨rfl, rfl, rfl, Nat.le_refl _, fun _ _ => rfl⟩
    | (refine ⟨?_, ?_, ?_, ?_, ?_⟩ <;> first | simp | (intros; simp))
set_option maxRecDepth 100000 in
set_option maxHeartbeats 8000000 in
theorem matches_any : ∀ (d : Nat) (T : YT), typedF d T = true → ∀ (V : LT), OkV V → ∀ (n₀ : Nat) (w : World), IsT n₀ w V → IsY n₀ w T → n₀ ≤ w.heap.size →
    Calls Tryz.prog 28 #[V.node.val, T.node.val] w fun e w' => e = .returned (.bool (matchF V T)) ∧ Below w.heap.size w w' := by
  intro d
  induction d with
  | zero => intro T h; simp [typedF] at h
  | succ d ih =>
    intro T hsh V hOV n₀ w hTV hTT hn
    obtain ⟨⟨tk, ta, tl, tc⟩, m⟩ := T
    obtain ⟨⟨xk, xn, xs, xa, xl, xc⟩, l⟩ := V
    simp only [typedF, Bool.and_eq_true, List.all_eq_true] at hsh
    obtain ⟨htk, ht8⟩ := tokNode_kinds hsh.1
    obtain ⟨hxo, hx1, hx8, hxk⟩ := hOV.four
    cases hTV with
    | mk _ _ hlx _ _ hcx hkx =>
    cases hTT with
    | mk _ _ hly _ hcy hky =>
    simp only at hlx hcx hly hcy hxo hx1 hx8 htk ht8
    dsimp only [LT.node, Node.val, YT.node, TNode.val]
    have IH := Lib.hid (fun (t : YT) (ht : t ∈ m) (c : LT) (hc : c ∈ l) => ih t (hsh.2 t ht) c (hxk c hc) n₀)
    have HX := Lib.hid hcx
    have HY := Lib.hid hcy
    have HKX := Lib.hid hkx
    have HKY := Lib.hid hky
    have HLX := Lib.hid hlx
    have HLY := Lib.hid hly
    have HNn := Lib.hid hn
    have HXO := Lib.hid hxo
    have HQ := Lib.hid (box2' w #[.int .i64 xk, .int .i64 xn, .string xs, .slice xa xl xc] #[.int .i64 tk, .slice ta tl tc] 24 27)
    have hb2 : Below w.heap.size w ((w.alloc (.cells #[.int .i64 xk, .int .i64 xn, .string xs, .slice xa xl xc] 24)).alloc (.cells #[.int .i64 tk, .slice ta tl tc] 27)) := ((Below.refl _ _).alloc (Nat.le_refl _) _).alloc (by simp) _
    have HB2 := Lib.hid hb2
    clear ih hOV hsh hcx hcy hkx hky hlx hly hn hxo hxk hb2
    rcases htk with rfl | rfl | rfl | rfl
    · clear IH HX HY HKX HKY HLX HLY HNn HXO HQ
      have e : matchF (.mk ⟨xk, xn, xs, xa, xl, xc⟩ l) (.mk ⟨0, ta, tl, tc⟩ m) = decide (xk = 0) := by simp [matchF, LT.node] <;> (first | rfl | congr)
      rw [e]
      by_cases hk : xk = 0
      · subst hk
        go_enter Tryz.func28, Tryz.ntmps28
        go_wp2
        go_ret
        exact ⟨ret_bool (by simp), HB2.out⟩
      · go_enter Tryz.func28, Tryz.ntmps28
        go_wp2
        go_ret
        exact ⟨ret_bool (by simp [hk]), HB2.out⟩
    · clear IH HX HY HKX HKY HLX HLY HNn HXO HQ
      have e : matchF (.mk ⟨xk, xn, xs, xa, xl, xc⟩ l) (.mk ⟨1, ta, tl, tc⟩ m) = decide (xk = 1) := by simp [matchF, LT.node] <;> (first | rfl | congr)
      rw [e]
      by_cases hk : xk = 1
      · subst hk
        go_enter Tryz.func28, Tryz.ntmps28
        go_wp2
        go_ret
        exact ⟨ret_bool (by simp), HB2.out⟩
      · go_enter Tryz.func28, Tryz.ntmps28
        go_wp2
        go_ret
        exact ⟨ret_bool (by simp [hk]), HB2.out⟩
    · have e : matchF (.mk ⟨xk, xn, xs, xa, xl, xc⟩ l) (.mk ⟨2, ta, tl, tc⟩ m) = (decide (xk = 2) && (decide (xl = tl) && matchAll l m)) := by simp [matchF, LT.node, LT.kids] <;> (first | rfl | congr)
      rw [e]
      clear e
      by_cases hk : xk = 2
      · subst hk
        have HQ2 := Lib.hid HQ.out
        by_cases hll : xl = tl
        · have HLL := Lib.hid hll
          have hll_ : xl = tl := hll
          clear hll
          rw [show (decide ((2 : Int) = 2) && (decide (xl = tl) && matchAll l m)) = matchAll l m by simp [HLL.out]]
          clear HQ
          subst hll_
          obtain ⟨hq0, hq1⟩ := HQ2.out
          go_enter Tryz.func28, Tryz.ntmps28
          go_wp2_with (fail)
          go_loopw [60] (fun i wr => ∃ k : Nat, k ≤ xl ∧ i = .int .i64 k ∧ Hid (matchAll (l.drop k) (m.drop k) = matchAll l m) ∧ Hid (Below w.heap.size w wr ∧ wr.heap[w.heap.size]? = some (.cells #[.int .i64 2, .int .i64 xn, .string xs, .slice xa xl xc] 24 (0, 0)) ∧ wr.heap[w.heap.size + 1]? = some (.cells #[.int .i64 2, .slice ta xl tc] 27 (0, 0)))) (fun i _ => xl - (intOf i).toNat)
          case atStart => exact ⟨0, Nat.zero_le _, rfl, Lib.hid rfl, Lib.hid ⟨HB2.out, hq0, hq1⟩⟩
          case round =>
            obtain ⟨k, hk, rfl, HE, HW⟩ := hrel
            clear hq0 hq1
            by_cases hlt : k < xl
            · have hkl : k < l.length := by have := HLX.out; omega
              have hkm : k < m.length := by have := HLY.out; omega
              obtain ⟨c, hcc⟩ : ∃ c, l[k]? = some c := ⟨l[k], by simp [hkl]⟩
              obtain ⟨t, htt⟩ : ∃ t, m[k]? = some t := ⟨m[k], by simp [hkm]⟩
              obtain ⟨b, off, rfl, hbb, e0, e1, e2, e3⟩ := HX.out k c hcc
              obtain ⟨b', off', rfl, hbb', g0, g1⟩ := HY.out k t htt
              have hn := HNn.out
              have hbw : Below w.heap.size w wr := HW.out.1
              have f0 := ((hbw.mono hn).cell (p := ⟨b, off + k * 4, none⟩) hbb).trans e0
              have f1 := ((hbw.mono hn).cell (p := ⟨b, off + k * 4 + 1, none⟩) hbb).trans e1
              have f2 := ((hbw.mono hn).cell (p := ⟨b, off + k * 4 + 2, none⟩) hbb).trans e2
              have f3 := ((hbw.mono hn).cell (p := ⟨b, off + k * 4 + 3, none⟩) hbb).trans e3
              have d0 := ((hbw.mono hn).cell (p := ⟨b', off' + k * 2, none⟩) hbb').trans g0
              have d1 := ((hbw.mono hn).cell (p := ⟨b', off' + k * 2 + 1, none⟩) hbb').trans g1
              have hdr := matchAll_drop hcc htt
              have hC : ∀ W, Below w.heap.size w W → Calls Tryz.prog 28 #[c.node.val, t.node.val] W fun e w' => e = .returned (.bool (matchF c t)) ∧ Below W.heap.size W w' := fun W hW =>
                IH.out t (List.mem_of_getElem? htt) c (List.mem_of_getElem? hcc) W ((HKX.out c (List.mem_of_getElem? hcc)).bel (hW.mono hn)) ((HKY.out t (List.mem_of_getElem? htt)).bel (hW.mono hn)) (by have := hW.size; omega)
              obtain ⟨r, hr⟩ : ∃ r, matchF c t = r := ⟨_, rfl⟩
              rw [hr] at hC hdr
              have HE2 : Hid ((r && matchAll (l.drop (k + 1)) (m.drop (k + 1))) = matchAll l m) := Lib.hid (by rw [← hdr]; exact HE.out)
              obtain ⟨⟨ck, cn, cs, ca, cl, cc⟩, ckids⟩ := c
              obtain ⟨⟨uk, ua, ul, uc⟩, ukids⟩ := t
              dsimp only [LT.node, Node.val, YT.node, TNode.val] at f0 f1 f2 f3 d0 d1 hC
              obtain ⟨W1, hW1⟩ : ∃ W1, wr.alloc (.cells #[.int .i64 ck, .int .i64 cn, .string cs, .slice ca cl cc] 24) = W1 := ⟨_, rfl⟩
              have hb1 : Below wr.heap.size wr W1 := by rw [← hW1]; exact (Below.refl _ _).alloc (Nat.le_refl _) _
              have hnew : W1.heap[wr.heap.size]? = some (.cells #[.int .i64 ck, .int .i64 cn, .string cs, .slice ca cl cc] 24 (0, 0)) := by rw [← hW1]; exact World.alloc_heap_new wr _
              have hbw1 : Below w.heap.size w W1 := hbw.trans (hb1.mono hbw.size)
              obtain ⟨⟨_, y1⟩, _⟩ := cells2 ((hb1.block _ (Array.getElem?_eq_some_iff.1 HW.out.2.2).1).trans HW.out.2.2)
              obtain ⟨⟨n0, n1, n2, n3⟩, _⟩ := cells4 hnew
              have k0 := (hb1.cell (p := ⟨b', off' + k * 2, none⟩) (cell_lt d0)).trans d0
              have k1 := (hb1.cell (p := ⟨b', off' + k * 2 + 1, none⟩) (cell_lt d1)).trans d1
              have hI' : Hid (∀ W, Below W1.heap.size W1 W → Calls Tryz.prog 28 #[.agg #[.int .i64 ck, .int .i64 cn, .string cs, .slice ca cl cc], .agg #[.int .i64 uk, .slice ua ul uc]] W fun e w' => e = .returned (.bool r) ∧ Hid (Below W1.heap.size W1 w') ∧ (w'.cell? ⟨wr.heap.size, 0, none⟩ = some (.int .i64 ck) ∧ w'.cell? ⟨wr.heap.size, 1, none⟩ = some (.int .i64 cn) ∧ w'.cell? ⟨wr.heap.size, 2, none⟩ = some (.string cs) ∧ w'.cell? ⟨wr.heap.size, 3, none⟩ = some (.slice ca cl cc) ∧ w'.cell? ⟨w.heap.size + 1, 1, none⟩ = some (.slice (some ⟨b', off', none⟩) xl tc) ∧ w'.cell? ⟨b', off' + k * 2, none⟩ = some (.int .i64 uk) ∧ w'.cell? ⟨b', off' + k * 2 + 1, none⟩ = some (.slice ua ul uc))) := Lib.hid fun W hW => (hC W (hbw1.trans (hW.mono hbw1.size))).mono fun e w' h => by
                have hB := hW.trans (h.2.mono hW.size)
                have kp : ∀ {b o : Nat} {v : Value}, W1.cell? ⟨b, o, none⟩ = some v → w'.cell? ⟨b, o, none⟩ = some v := fun {b o v} hc => (hB.cell (p := ⟨b, o, none⟩) (cell_lt hc)).trans hc
                exact ⟨h.1, Lib.hid hB, kp n0, kp n1, kp n2, kp n3, kp y1, kp k0, kp k1⟩
              have HB1 := Lib.hid hb1
              have HBW1 := Lib.hid hbw1
              clear hC hr hdr hcc htt hkl hkm hbb hbb' e0 e1 e2 e3 g0 g1 HE hnew hb1 hbw1 hbw hn d0 d1
              go_upto_region 13 with (fail)
              try rw [hW1]
              have HW1 := Lib.hid hW1
              clear hW1 f0 f1 f2 f3
              cases r
              all_goals
                go_region_held3 (fun w' => w'.cell? ⟨wr.heap.size, 0, none⟩ = some (.int .i64 ck) ∧ w'.cell? ⟨wr.heap.size, 1, none⟩ = some (.int .i64 cn) ∧ w'.cell? ⟨wr.heap.size, 2, none⟩ = some (.string cs) ∧ w'.cell? ⟨wr.heap.size, 3, none⟩ = some (.slice ca cl cc) ∧ w'.cell? ⟨w.heap.size + 1, 1, none⟩ = some (.slice (some ⟨b', off', none⟩) xl tc) ∧ w'.cell? ⟨b', off' + k * 2, none⟩ = some (.int .i64 uk) ∧ w'.cell? ⟨b', off' + k * 2 + 1, none⟩ = some (.slice ua ul uc))
                  (go_keep)
                  (first
                    | (go_at_call 28; refine (hI'.out _ ?_).mono ?_; (first | exact Below.refl _ _ | exact (Below.refl _ _).drew); rintro e W4 ⟨rfl, H4, s0, s1, s2, s3, s4, s5, s6⟩))
                go_wp2_with (fail)
              · go_ret
                exact ⟨ret_boolF (by have h2 := HE2.out; rw [← h2]; rfl), HBW1.out.trans (H4.out.mono HBW1.out.size)⟩
              · have HW4 := Lib.hid (HB1.out.trans (H4.out.mono HB1.out.size))
                go_roundw
                case rel =>
                  exact ⟨k + 1, by omega, by go_num, Lib.hid (by have h2 := HE2.out; rwa [Bool.true_and] at h2), Lib.hid ⟨HBW1.out.trans (H4.out.mono HBW1.out.size), (HW4.out.block _ (Array.getElem?_eq_some_iff.1 HW.out.2.1).1).trans HW.out.2.1, (HW4.out.block _ (Array.getElem?_eq_some_iff.1 HW.out.2.2).1).trans HW.out.2.2⟩⟩
                case measure => simp [intOf]; omega
            · have hk1 : l.drop k = [] := List.drop_eq_nil_iff.2 (by have := HLX.out; omega)
              have hk2 : m.drop k = [] := List.drop_eq_nil_iff.2 (by have := HLY.out; omega)
              have HK := Lib.hid (And.intro hk1 hk2)
              clear hk1 hk2
              go_wp2_with (fail)
              go_ret
              have h1 := HE.out
              have h2 := HK.out
              exact ⟨ret_boolF (by rw [← h1, h2.1, h2.2]; rfl), HW.out.1⟩
        · have hlB : ((xl : Int) == (tl : Int)) = false := by simp; omega
          have hlC : (decide ((xl : Int) = (tl : Int))) = false := by simp; omega
          clear IH HX HY HKX HKY HLX HLY HNn HXO HQ
          go_enter Tryz.func28, Tryz.ntmps28
          go_wp2
          go_ret
          exact ⟨ret_bool (by simp [hll]), HB2.out⟩
      · clear IH HX HY HKX HKY HLX HLY HNn HXO HQ
        go_enter Tryz.func28, Tryz.ntmps28
        go_wp2
        go_ret
        exact ⟨ret_bool (by simp [hk]), HB2.out⟩
    · skip
      obtain ⟨W2, hW2⟩ : ∃ W2, (w.alloc (.cells #[.int .i64 xk, .int .i64 xn, .string xs, .slice xa xl xc] 24)).alloc (.cells #[.int .i64 3, .slice ta tl tc] 27) = W2 := ⟨_, rfl⟩
      have HQ1 := HQ.out
      rw [hW2] at HQ1 HB2
      obtain ⟨⟨x0, x1, x2, x3⟩, _⟩ := cells4 HQ1.1
      obtain ⟨⟨y0, y1⟩, _⟩ := cells2 HQ1.2
      by_cases hk : xk = 3
      · subst hk
        by_cases hlt : xn < tl
        · have hxo := HXO.out
          simp [okNode] at hxo
          have hlx := HLX.out
          have hly := HLY.out
          obtain ⟨n, rfl⟩ : ∃ n : Nat, xn = n := ⟨xn.toNat, by omega⟩
          obtain ⟨c, rfl⟩ : ∃ c, l = [c] := by
            match l, hlx with
            | [c], _ => exact ⟨c, rfl⟩
            | [], h => simp at h; omega
            | _ :: _ :: _, h => simp at h; omega
          have hnm : n < m.length := by omega
          obtain ⟨t, htt⟩ : ∃ t, m[n]? = some t := ⟨m[n], by simp [hnm]⟩
          have hres : matchF (.mk ⟨3, n, xs, xa, xl, xc⟩ [c]) (.mk ⟨3, ta, tl, tc⟩ m) = matchF c t := by
            have hlt' : (n : Int) < (tl : Int) := hlt
            simp [matchF, LT.node, LT.kids, matchAt_get htt]; omega
          rw [hres]
          clear hres
          obtain ⟨b, off, rfl, hbb, e0, e1, e2, e3⟩ := HX.out 0 c (by simp)
          obtain ⟨b', off', rfl, hbb', g0, g1⟩ := HY.out n t htt
          simp only [Nat.zero_mul, Nat.add_zero] at e0 e1 e2 e3
          have hn := HNn.out
          have hbw : Below w.heap.size w W2 := HB2.out
          have f0 := ((hbw.mono hn).cell (p := ⟨b, off, none⟩) hbb).trans e0
          have f1 := ((hbw.mono hn).cell (p := ⟨b, off + 1, none⟩) hbb).trans e1
          have f2 := ((hbw.mono hn).cell (p := ⟨b, off + 2, none⟩) hbb).trans e2
          have f3 := ((hbw.mono hn).cell (p := ⟨b, off + 3, none⟩) hbb).trans e3
          have d0 := ((hbw.mono hn).cell (p := ⟨b', off' + n * 2, none⟩) hbb').trans g0
          have d1 := ((hbw.mono hn).cell (p := ⟨b', off' + n * 2 + 1, none⟩) hbb').trans g1
          have hC : ∀ W, Below w.heap.size w W → Calls Tryz.prog 28 #[c.node.val, t.node.val] W fun e w' => e = .returned (.bool (matchF c t)) ∧ Below W.heap.size W w' := fun W hW =>
            IH.out t (List.mem_of_getElem? htt) c (by simp) W ((HKX.out c (by simp)).bel (hW.mono hn)) ((HKY.out t (List.mem_of_getElem? htt)).bel (hW.mono hn)) (by have := hW.size; omega)
          obtain ⟨r, hr⟩ : ∃ r, matchF c t = r := ⟨_, rfl⟩
          rw [hr] at hC ⊢
          have n0 : (0 : Int) ≤ (n : Int) := by omega
          have n1 : (n : Int) < (tl : Int) := hlt
          have hl1 : (xl : Int) = 1 := by simp at hlx; omega
          have hl1' : xl = 1 := by omega
          subst hl1'
          obtain ⟨⟨ck, cn, cs, ca, cl, cc⟩, ckids⟩ := c
          obtain ⟨⟨uk, ua, ul, uc⟩, ukids⟩ := t
          dsimp only [LT.node, Node.val, YT.node, TNode.val] at f0 f1 f2 f3 d0 d1 hC
          have hI' : Hid (∀ W, Below W2.heap.size W2 W → Calls Tryz.prog 28 #[.agg #[.int .i64 ck, .int .i64 cn, .string cs, .slice ca cl cc], .agg #[.int .i64 uk, .slice ua ul uc]] W fun e w' => e = .returned (.bool r) ∧ Hid (Below W2.heap.size W2 w') ∧ (w'.cell? ⟨w.heap.size, 0, none⟩ = some (.int .i64 3) ∧ w'.cell? ⟨w.heap.size, 1, none⟩ = some (.int .i64 n) ∧ w'.cell? ⟨w.heap.size, 3, none⟩ = some (.slice (some ⟨b, off, none⟩) 1 xc) ∧ w'.cell? ⟨w.heap.size + 1, 1, none⟩ = some (.slice (some ⟨b', off', none⟩) tl tc) ∧ w'.cell? ⟨b, off, none⟩ = some (.int .i64 ck) ∧ w'.cell? ⟨b, off + 1, none⟩ = some (.int .i64 cn) ∧ w'.cell? ⟨b, off + 2, none⟩ = some (.string cs) ∧ w'.cell? ⟨b, off + 3, none⟩ = some (.slice ca cl cc) ∧ w'.cell? ⟨b', off' + n * 2, none⟩ = some (.int .i64 uk) ∧ w'.cell? ⟨b', off' + n * 2 + 1, none⟩ = some (.slice ua ul uc))) := Lib.hid fun W hW => (hC W (hbw.trans (hW.mono hbw.size))).mono fun e w' h => by
            have hB := hW.trans (h.2.mono hW.size)
            have kp : ∀ {b o : Nat} {v : Value}, W2.cell? ⟨b, o, none⟩ = some v → w'.cell? ⟨b, o, none⟩ = some v := fun {b o v} hc => (hB.cell (p := ⟨b, o, none⟩) (cell_lt hc)).trans hc
            exact ⟨h.1, Lib.hid hB, kp x0, kp x1, kp x3, kp y1, kp f0, kp f1, kp f2, kp f3, kp d0, kp d1⟩
          clear hC hr htt hnm hbb hbb' e0 e1 e2 e3 g0 g1 hbw hn hlx hly hxo hlt IH HX HY HKX HKY HLX HLY HNn HXO HQ HQ1 hx1 hx8 ht8 x2 hl1
          go_enter Tryz.func28, Tryz.ntmps28
          go_upto_region 7 with (fail)
          try rw [hW2]
          clear hW2
          go_region_held3 (fun w' => w'.cell? ⟨w.heap.size, 0, none⟩ = some (.int .i64 3) ∧ w'.cell? ⟨w.heap.size, 1, none⟩ = some (.int .i64 n) ∧ w'.cell? ⟨w.heap.size, 3, none⟩ = some (.slice (some ⟨b, off, none⟩) 1 xc) ∧ w'.cell? ⟨w.heap.size + 1, 1, none⟩ = some (.slice (some ⟨b', off', none⟩) tl tc) ∧ w'.cell? ⟨b, off, none⟩ = some (.int .i64 ck) ∧ w'.cell? ⟨b, off + 1, none⟩ = some (.int .i64 cn) ∧ w'.cell? ⟨b, off + 2, none⟩ = some (.string cs) ∧ w'.cell? ⟨b, off + 3, none⟩ = some (.slice ca cl cc) ∧ w'.cell? ⟨b', off' + n * 2, none⟩ = some (.int .i64 uk) ∧ w'.cell? ⟨b', off' + n * 2 + 1, none⟩ = some (.slice ua ul uc))
            (go_keep)
            (first
              | (go_at_call 28; refine (hI'.out _ ?_).mono ?_; (first | exact Below.refl _ _ | exact (Below.refl _ _).drew); rintro e W4 ⟨rfl, H4, s0, s1, s2, s3, s4, s5, s6, s7, s8, s9⟩))
          go_wp2_with (fail)
          go_ret
          exact ⟨rfl, HB2.out.trans (H4.out.mono HB2.out.size)⟩
        · rw [show matchF (.mk ⟨3, xn, xs, xa, xl, xc⟩ l) (.mk ⟨3, ta, tl, tc⟩ m) = false by simp [matchF, LT.node]; exact fun h => absurd (of_decide_eq_true h) hlt]
          clear IH HX HY HKX HKY HLX HLY HNn HXO HQ HQ1 hx1 hx8 ht8 x2
          go_enter Tryz.func28, Tryz.ntmps28
          go_upto_region 7 with (fail)
          try rw [hW2]
          clear hW2
          go_quiet (fail)
          go_wp2_with (fail)
          go_ret
          exact ⟨rfl, HB2.out.trans ((below_drewM _ _).mono HB2.out.size)⟩
      · have hkf : (xk == 3) = false := by simpa using hk
        rw [show matchF (.mk ⟨xk, xn, xs, xa, xl, xc⟩ l) (.mk ⟨3, ta, tl, tc⟩ m) = false by simp [matchF, LT.node, hk]]
        clear IH HX HY HKX HKY HLX HLY HNn HXO HQ HQ1 hx1 hx8 ht8 x1 x2 x3
        go_enter Tryz.func28, Tryz.ntmps28
        go_upto_region 7 with (fail)
        try rw [hW2]
        clear hW2
        go_quiet (fail)
        go_wp2_with (fail)
        go_ret
        exact ⟨rfl, HB2.out.trans ((below_drewM _ _).mono HB2.out.size)⟩
end Go.Proofs.YtofboalgbgipoaaGreatDoor
