/- Are two values the same; which one is ahead, of valid ones. -/
import Derived.Test.YtofboalgbgipoaaGreatDoorValj
import Derived.Test.YtofboalgbgipoaaGreatDoorVals
import Derived.Deep.RegionHeld3
import Derived.Deep.Cut
set_option linter.all false
namespace Go.Proofs.YtofboalgbgipoaaGreatDoor
open Go.RowKit Go.Shelf
attribute [local go_sem] Oper.semAt_some

theorem ret_boolF {a b : Bool} (h : a = b) : Ending.returned (.bool a) = .returned (.bool b) := by rw [h]
theorem sameL_len : ∀ {l m : List LT}, l.length ≠ m.length → sameL l m = false
  | [], [], h => absurd rfl h
  | [], _ :: _, _ => by simp [sameL]
  | _ :: _, [], _ => by simp [sameL]
  | a :: l, b :: m, h => by simp only [sameL]; rw [sameL_len (fun e => h (by simp [e]))]; simp
theorem sameL_drop {l m : List LT} {k : Nat} {c d : LT} (hc : l[k]? = some c) (hd : m[k]? = some d) : sameL (l.drop k) (m.drop k) = (sameF c d && sameL (l.drop (k + 1)) (m.drop (k + 1))) := by
  have h1 := List.getElem?_eq_some_iff.1 hc
  have h2 := List.getElem?_eq_some_iff.1 hd
  rw [List.drop_eq_getElem_cons h1.1, List.drop_eq_getElem_cons h2.1, h1.2, h2.2]
  simp only [sameL]
set_option maxRecDepth 100000 in
set_option maxHeartbeats 2000000 in
theorem sameVals_any (n₀ : Nat) (w : World) (x y : Node) (l m : List LT) (hx : IsT n₀ w (.mk x l)) (hy : IsT n₀ w (.mk y m)) (hn : n₀ ≤ w.heap.size)
    (H : ∀ c ∈ l, ∀ d ∈ m, ∀ W, Below w.heap.size w W → Calls Tryz.prog 15 #[c.node.val, d.node.val] W fun e W' => e = .returned (.bool (sameF c d)) ∧ Below W.heap.size W W') :
    Calls Tryz.prog 30 #[.slice x.a x.len x.cap, .slice y.a y.len y.cap] w fun e w' => e = .returned (.bool (sameL l m)) ∧ Below w.heap.size w w' := by
  cases hx with
  | mk _ _ hlx _ hmx hcx _ =>
  cases hy with
  | mk _ _ hly _ hmy hcy _ =>
  obtain ⟨xk, xn, xs, xa, xl, xc⟩ := x
  obtain ⟨yk, yn, ys, ya, yl, yc⟩ := y
  simp only at hlx hmx hcx hly hmy hcy
  have hxl : (xl : Int) ≤ 140737488351232 := by omega
  have hyl : (yl : Int) ≤ 140737488351232 := by omega
  have HX := Lib.hid hcx
  have HY := Lib.hid hcy
  have HLX := Lib.hid hlx
  have HLY := Lib.hid hly
  have HH := Lib.hid H
  clear hcx hcy hlx hly H hmx hmy
  by_cases hll : xl = yl
  · subst hll
    go_enter Tryz.func30, Tryz.ntmps30
    go_wp2
    go_loopw [5] (fun i wr => ∃ k : Nat, k ≤ xl ∧ i = .int .i64 k ∧ sameL l m = sameL (l.drop k) (m.drop k) ∧ Below w.heap.size w wr) (fun i _ => xl - (intOf i).toNat)
    case atStart => exact ⟨0, Nat.zero_le _, rfl, rfl, Below.refl _ _⟩
    case round =>
      obtain ⟨k, hkx, rfl, heq, hb⟩ := hrel
      have HE := Lib.hid heq
      have HB := Lib.hid hb
      have hbs := hb.size
      clear heq
      by_cases hlt : k < xl
      · have hkl : k < l.length := by have := HLX.out; omega
        have hkm : k < m.length := by have := HLY.out; omega
        obtain ⟨c, hcc⟩ : ∃ c, l[k]? = some c := ⟨l[k], by simp [hkl]⟩
        obtain ⟨d, hdd⟩ : ∃ d, m[k]? = some d := ⟨m[k], by simp [hkm]⟩
        obtain ⟨b, off, rfl, hbb, e0, e1, e2, e3⟩ := HX.out k c hcc
        obtain ⟨b', off', rfl, hbb', e0', e1', e2', e3'⟩ := HY.out k d hdd
        have f0 := ((hb.mono hn).cell (p := ⟨b, off + k * 4, none⟩) hbb).trans e0
        have f1 := ((hb.mono hn).cell (p := ⟨b, off + k * 4 + 1, none⟩) hbb).trans e1
        have f2 := ((hb.mono hn).cell (p := ⟨b, off + k * 4 + 2, none⟩) hbb).trans e2
        have f3 := ((hb.mono hn).cell (p := ⟨b, off + k * 4 + 3, none⟩) hbb).trans e3
        have g0 := ((hb.mono hn).cell (p := ⟨b', off' + k * 4, none⟩) hbb').trans e0'
        have g1 := ((hb.mono hn).cell (p := ⟨b', off' + k * 4 + 1, none⟩) hbb').trans e1'
        have g2 := ((hb.mono hn).cell (p := ⟨b', off' + k * 4 + 2, none⟩) hbb').trans e2'
        have g3 := ((hb.mono hn).cell (p := ⟨b', off' + k * 4 + 3, none⟩) hbb').trans e3'
        have hdr := sameL_drop hcc hdd
        have hC := HH.out c (List.mem_of_getElem? hcc) d (List.mem_of_getElem? hdd)
        obtain ⟨r, hr⟩ : ∃ r, sameF c d = r := ⟨_, rfl⟩
        rw [hr] at hC hdr
        have HD := Lib.hid hdr
        have hC' : ∀ W, Below w.heap.size w W → Calls Tryz.prog 15 #[.agg #[.int .i64 c.node.k, .int .i64 c.node.n, .string c.node.s, .slice c.node.a c.node.len c.node.cap], .agg #[.int .i64 d.node.k, .int .i64 d.node.n, .string d.node.s, .slice d.node.a d.node.len d.node.cap]] W fun e W' =>
            e = .returned (.bool r) ∧ Hid (Below w.heap.size w W') := fun W hW => (hC W hW).mono fun e W' h => ⟨h.1, Lib.hid (hW.trans (h.2.mono hW.size))⟩
        have hk0 : (0 : Int) ≤ (k : Int) := by omega
        have hk1 : (k : Int) < (xl : Int) := by omega
        have HC := Lib.hid hC'
        have HKp : Hid (∀ W, Below w.heap.size w W → W.cell? ⟨b, off + k * 4, none⟩ = some (.int .i64 c.node.k) ∧ W.cell? ⟨b, off + k * 4 + 1, none⟩ = some (.int .i64 c.node.n) ∧ W.cell? ⟨b, off + k * 4 + 2, none⟩ = some (.string c.node.s) ∧ W.cell? ⟨b, off + k * 4 + 3, none⟩ = some (.slice c.node.a c.node.len c.node.cap) ∧
              W.cell? ⟨b', off' + k * 4, none⟩ = some (.int .i64 d.node.k) ∧ W.cell? ⟨b', off' + k * 4 + 1, none⟩ = some (.int .i64 d.node.n) ∧ W.cell? ⟨b', off' + k * 4 + 2, none⟩ = some (.string d.node.s) ∧ W.cell? ⟨b', off' + k * 4 + 3, none⟩ = some (.slice d.node.a d.node.len d.node.cap)) := Lib.hid fun W hW =>
          ⟨((hW.mono hn).cell (p := ⟨b, _, none⟩) hbb).trans e0, ((hW.mono hn).cell (p := ⟨b, _, none⟩) hbb).trans e1, ((hW.mono hn).cell (p := ⟨b, _, none⟩) hbb).trans e2, ((hW.mono hn).cell (p := ⟨b, _, none⟩) hbb).trans e3, ((hW.mono hn).cell (p := ⟨b', _, none⟩) hbb').trans e0', ((hW.mono hn).cell (p := ⟨b', _, none⟩) hbb').trans e1', ((hW.mono hn).cell (p := ⟨b', _, none⟩) hbb').trans e2', ((hW.mono hn).cell (p := ⟨b', _, none⟩) hbb').trans e3'⟩
        clear hdr hr hC hC' hb e0 e1 e2 e3 e0' e1' e2' e3' hkl hkm hbb hbb' hcc hdd hbs hn
        have hcell : ∀ W, Below w.heap.size w W → True := fun _ _ => trivial
        clear hcell
        cases r
        all_goals
          go_upto_region 6 with fail
          go_region_held3 (fun w' => w'.cell? ⟨b, off + k * 4, none⟩ = some (.int .i64 c.node.k) ∧ w'.cell? ⟨b, off + k * 4 + 1, none⟩ = some (.int .i64 c.node.n) ∧ w'.cell? ⟨b, off + k * 4 + 2, none⟩ = some (.string c.node.s) ∧ w'.cell? ⟨b, off + k * 4 + 3, none⟩ = some (.slice c.node.a c.node.len c.node.cap) ∧
              w'.cell? ⟨b', off' + k * 4, none⟩ = some (.int .i64 d.node.k) ∧ w'.cell? ⟨b', off' + k * 4 + 1, none⟩ = some (.int .i64 d.node.n) ∧ w'.cell? ⟨b', off' + k * 4 + 2, none⟩ = some (.string d.node.s) ∧ w'.cell? ⟨b', off' + k * 4 + 3, none⟩ = some (.slice d.node.a d.node.len d.node.cap))
            (go_keep)
            (first
              | (go_at_call 15; refine (HC.out _ ?_).mono ?_; (first | exact HB.out | exact HB.out.drew); rintro e W4 ⟨rfl, H4⟩; obtain ⟨s0, s1, s2, s3, s4, s5, s6, s7⟩ := HKp.out _ H4.out))
          go_wp2
        · go_ret
          have h1 := HE.out
          have h2 := HD.out
          exact ⟨ret_boolF (by rw [h1, h2]; rfl), H4.out⟩
        · go_roundw
          case rel =>
            have h1 := HE.out
            have h2 := HD.out
            exact ⟨k + 1, by omega, by go_num, by rw [h1, h2]; simp, H4.out⟩
          case measure => simp [intOf]; omega
      · have hk1 : l.drop k = [] := List.drop_eq_nil_iff.2 (by have := HLX.out; omega)
        have hk2 : m.drop k = [] := List.drop_eq_nil_iff.2 (by have := HLY.out; omega)
        have HK := Lib.hid (And.intro hk1 hk2)
        clear hk1 hk2 hb
        go_wp2
        go_ret
        have h1 := HE.out
        have h2 := HK.out
        exact ⟨ret_boolF (by rw [h1, h2.1, h2.2]; simp [sameL]), HB.out⟩
  · have hll' : ¬ ((xl : Int) = (yl : Int)) := by omega
    go_enter Tryz.func30, Tryz.ntmps30
    go_wp2
    go_ret
    exact ⟨ret_boolF (sameL_len (by have := HLX.out; have := HLY.out; omega)).symm, Below.refl _ _⟩
set_option maxRecDepth 100000 in
set_option maxHeartbeats 2000000 in
theorem same_any : ∀ (sz : Nat) (A B : LT), A.ht ≤ sz → ∀ (n₀ : Nat) (w : World), IsT n₀ w A → IsT n₀ w B → n₀ ≤ w.heap.size →
    Calls Tryz.prog 15 #[A.node.val, B.node.val] w fun e w' => e = .returned (.bool (sameF A B)) ∧ Below w.heap.size w w' := by
  intro sz
  induction sz with
  | zero => intro A B hA; cases A; simp [LT.ht] at hA
  | succ sz ih =>
    intro A B hA n₀ w hTA hTB hn
    obtain ⟨x, l⟩ := A
    obtain ⟨y, m⟩ := B
    simp only [LT.ht] at hA
    obtain ⟨W2, hW2⟩ : ∃ W2, (w.alloc (.cells #[.int .i64 x.k, .int .i64 x.n, .string x.s, .slice x.a x.len x.cap] 24)).alloc (.cells #[.int .i64 y.k, .int .i64 y.n, .string y.s, .slice y.a y.len y.cap] 24) = W2 := ⟨_, rfl⟩
    have hb2 : Below w.heap.size w W2 := by rw [← hW2]; exact ((Below.refl _ _).alloc (Nat.le_refl _) _).alloc (by simp) _
    have hF := sameVals_any n₀ W2 x y l m (hTA.bel (hb2.mono hn)) (hTB.bel (hb2.mono hn)) (by have := hb2.size; omega) (fun c hc d hd W hW => by
      have hbw : Below n₀ w W := (hb2.mono hn).trans (hW.mono (by have := hb2.size; omega))
      exact ih c d (by have := LT.ht_mem hc; omega) n₀ W ((hTA.kid c hc).bel hbw) ((hTB.kid d hd).bel hbw) (by have := hW.size; have := hb2.size; omega))
    obtain ⟨q, hq⟩ : ∃ q, sameL l m = q := ⟨_, rfl⟩
    rw [hq] at hF
    have hF' : Calls Tryz.prog 30 #[.slice x.a x.len x.cap, .slice y.a y.len y.cap] W2 fun e w' => e = .returned (.bool q) ∧ Hid (Below w.heap.size w w') :=
      hF.mono fun e w' h => ⟨h.1, Lib.hid (hb2.trans (h.2.mono hb2.size))⟩
    have HB := Lib.hid hb2
    rw [← hW2] at hF' HB
    have hr : sameF (.mk x l) (.mk y m) = (decide (x.k = y.k) && (decide (x.n = y.n) && (decide (x.s = y.s) && q))) := by rw [← hq]; simp only [sameF]
    rw [hr]
    clear hF ih hTA hTB hA hW2 hb2 hn hr hq
    obtain ⟨xk, xn, xs, xa, xl, xc⟩ := x
    obtain ⟨yk, yn, ys, ya, yl, yc⟩ := y
    dsimp only [LT.node, Node.val]
    dsimp only at hF' HB
    by_cases hk : xk = yk
    · subst hk
      by_cases hn : xn = yn
      · subst hn
        by_cases hs : xs = ys
        · subst hs
          go_enter Tryz.func15, Tryz.ntmps15
          go_wp2_with (go_at_call 30; refine hF'.mono ?_; clear hF'; rintro e W3 ⟨rfl, H3⟩)
          go_ret
          exact ⟨ret_boolF (by simp), H3.out⟩
        · clear hF'
          have hs' := str_ne hs
          have HS := Lib.hid hs
          clear hs
          go_enter Tryz.func15, Tryz.ntmps15
          go_wp2
          go_ret
          exact ⟨ret_boolF (by have := HS.out; simp [this]), HB.out⟩
      · clear hF'
        go_enter Tryz.func15, Tryz.ntmps15
        go_wp2
        go_ret
        exact ⟨ret_boolF (by simp [hn]), HB.out⟩
    · clear hF'
      go_enter Tryz.func15, Tryz.ntmps15
      go_wp2
      go_ret
      exact ⟨ret_boolF (by simp [hk]), HB.out⟩
set_option maxRecDepth 100000 in
set_option maxHeartbeats 2000000 in
/-- Compare, of valid values. -/
theorem Compare_ok (A B : LT) (hA : OkV A) (hB : OkV B) (hA6 : A.ht ≤ 6) (hB6 : B.ht ≤ 6) (hA60 : A.cnt ≤ 60) (hB60 : B.cnt ≤ 60) (n₀ : Nat) (w : World) (hTA : IsT n₀ w A) (hTB : IsT n₀ w B) (hn : n₀ ≤ w.heap.size) :
    Calls Tryz.prog 18 #[A.node.val, B.node.val] w fun e w' => e = .returned (.tuple #[.int .i64 (ordF A B), .int .i64 0]) ∧ Below w.heap.size w w' := by
  have ck : ∀ V : LT, OkV V → V.ht ≤ 6 → V.cnt ≤ 60 → IsT n₀ w V → ∀ W, Below w.heap.size w W → Calls Tryz.prog 11 #[V.node.val] W fun e w' => e = .returned (.int .i64 0) ∧ Hid (Below W.heap.size W w') := by
    intro V hO h6 h60 hT W hW
    have hc := Check_ok V hO (by omega) W ((hT.bel (hW.mono hn)).more (by have := hW.size; omega))
    rw [OkV.size hO h6 h60, if_neg (by have := V.cnt_pos; omega)] at hc
    exact hc.mono fun e w' h => ⟨h.1, Lib.hid h.2⟩
  have HA := Lib.hid (ck A hA hA6 hA60 hTA)
  have HB := Lib.hid (ck B hB hB6 hB60 hTB)
  have HO : Hid (∀ W, Below w.heap.size w W → Calls Tryz.prog 44 #[A.node.val, B.node.val] W fun e w' => e = .returned (.int .i64 (ordF A B)) ∧ Hid (Below w.heap.size w w')) := Lib.hid fun W hW =>
    (order_any 6 A B hA6 n₀ W (hTA.bel (hW.mono hn)) (hTB.bel (hW.mono hn)) (by have := hW.size; omega)).mono fun e w' h => ⟨h.1, Lib.hid (hW.trans (h.2.mono hW.size))⟩
  clear ck hTA hTB hA hB hn
  obtain ⟨r, hr⟩ : ∃ r, ordF A B = r := ⟨_, rfl⟩
  rw [hr] at HO ⊢
  clear hr hA6 hB6 hA60 hB60
  obtain ⟨⟨xk, xn, xs, xa, xl, xc⟩, l⟩ := A
  obtain ⟨⟨yk, yn, ys, ya, yl, yc⟩, m⟩ := B
  dsimp only [LT.node, Node.val] at HA HB HO ⊢
  have hbx : Below w.heap.size w ((w.alloc (.cells #[.int .i64 xk, .int .i64 xn, .string xs, .slice xa xl xc] 24)).alloc (.cells #[.int .i64 yk, .int .i64 yn, .string ys, .slice ya yl yc] 24)) := ((Below.refl _ _).alloc (Nat.le_refl _) _).alloc (by simp) _
  have q1 : ((w.alloc (.cells #[.int .i64 xk, .int .i64 xn, .string xs, .slice xa xl xc] 24)).alloc (.cells #[.int .i64 yk, .int .i64 yn, .string ys, .slice ya yl yc] 24)).heap[w.heap.size]? = some (.cells #[.int .i64 xk, .int .i64 xn, .string xs, .slice xa xl xc] 24 (0, 0)) := (Below.heap_alloc _ _ _ (by simp)).trans (World.alloc_heap_new w _)
  have q2 : ((w.alloc (.cells #[.int .i64 xk, .int .i64 xn, .string xs, .slice xa xl xc] 24)).alloc (.cells #[.int .i64 yk, .int .i64 yn, .string ys, .slice ya yl yc] 24)).heap[w.heap.size + 1]? = some (.cells #[.int .i64 yk, .int .i64 yn, .string ys, .slice ya yl yc] 24 (0, 0)) := by
    have := World.alloc_heap_new (w.alloc (.cells #[.int .i64 xk, .int .i64 xn, .string xs, .slice xa xl xc] 24)) (.cells #[.int .i64 yk, .int .i64 yn, .string ys, .slice ya yl yc] 24)
    rwa [World.size_alloc] at this
  have HQ := Lib.hid (And.intro q1 q2)
  have HX := Lib.hid hbx
  clear q1 q2 hbx
  go_enter Tryz.func18, Tryz.ntmps18
  go_wp2_with (first
    | (go_at_call_of 11 (Value.agg #[.int .i64 xk, .int .i64 xn, .string xs, .slice xa xl xc]); refine (HA.out _ HX.out).mono ?_; rintro e W3 ⟨rfl, H3⟩; have HP := Lib.hid (And.intro ((H3.out.block _ (Array.getElem?_eq_some_iff.1 HQ.out.1).1).trans HQ.out.1) ((H3.out.block _ (Array.getElem?_eq_some_iff.1 HQ.out.2).1).trans HQ.out.2)); have H3' := Lib.hid (HX.out.trans (H3.out.mono HX.out.size)); obtain ⟨⟨b0, b1, b2, b3⟩, _⟩ := cells4 HP.out.2)
    | (go_at_call_of 11 (Value.agg #[.int .i64 yk, .int .i64 yn, .string ys, .slice ya yl yc]); refine (HB.out _ H3'.out).mono ?_; rintro e W4 ⟨rfl, H4⟩; have H4' := Lib.hid (H3'.out.trans (H4.out.mono H3'.out.size)); obtain ⟨⟨c0, c1, c2, c3⟩, _⟩ := cells4 ((H4.out.block _ (Array.getElem?_eq_some_iff.1 HP.out.1).1).trans HP.out.1); obtain ⟨⟨d0, d1, d2, d3⟩, _⟩ := cells4 ((H4.out.block _ (Array.getElem?_eq_some_iff.1 HP.out.2).1).trans HP.out.2))
    | (go_at_call 44; refine (HO.out _ H4'.out).mono ?_; rintro e W5 ⟨rfl, H5⟩))
  go_ret2
  exact ⟨rfl, H5.out⟩
end Go.Proofs.YtofboalgbgipoaaGreatDoor
