/- Which of two values is ahead. -/
import Derived.Test.YtofboalgbgipoaaGreatDoorValh
import Derived.Test.YtofboalgbgipoaaGreatDoorValr
import Derived.Lib.Strings
import Derived.Lib.Slices
import Derived.Lib.Walk
set_option linter.all false
namespace Go.Proofs.YtofboalgbgipoaaGreatDoor
open Go.RowKit Go.Shelf
attribute [local go_sem] Oper.semAt_some

set_option maxHeartbeats 1000000 in
theorem cmpInt_any (x y : Int) (w : World) :
    Calls Tryz.prog 61 #[.int .i64 x, .int .i64 y] w fun e w' => e = .returned (.int .i64 (Lib.compareInt x y)) ∧ w' = w := by
  rcases Int.lt_trichotomy x y with h | h | h
  all_goals
    have h1 : Lib.compareInt x y = if x < y then -1 else if x > y then 1 else 0 := rfl
    have H1 := Lib.hid h1
    clear h1
    (try subst h)
    go_enter Tryz.func61, Tryz.ntmps61
    go_wp2
    go_ret
    refine ⟨ret_int ?_, rfl⟩
    rw [H1.out]
    simp
    try omega
set_option maxHeartbeats 1000000 in
set_option maxRecDepth 100000 in
theorem cmpStr_any (a b : ByteArray) (w : World) :
    Calls Tryz.prog 74 #[.string a, .string b] w fun e w' => e = .returned (.int .i64 (Lib.compareBytes a.data.toList b.data.toList)) ∧ w' = w := by
  obtain ⟨r, hr⟩ : ∃ r, Lib.compareBytes a.data.toList b.data.toList = r := ⟨_, rfl⟩
  have hx := @Lib.run_compareString Tryz.prog a b w
  rw [hr] at hx ⊢
  clear hr
  go_enter Tryz.func74, Tryz.ntmps74
  go_wp2
  rw [run_callFunc_extern Tryz.func86 (by kernel_rfl) (by kernel_rfl) (by kernel_rfl) (e := Extern.BytealgCompare.compare) (by kernel_rfl), hx]
  clear hx
  simp only [Result.andThen]
  rw [Oper.upon_value]
  go_wp2
  go_ret
  exact ⟨rfl, rfl⟩
set_option maxHeartbeats 1000000 in
theorem strCmp_any (a b : ByteArray) (w : World) :
    Calls Tryz.prog 62 #[.string a, .string b] w fun e w' => e = .returned (.int .i64 (Lib.compareBytes a.data.toList b.data.toList)) ∧ w' = w := by
  go_enter Tryz.func62, Tryz.ntmps62
  go_wp2_with (go_at_call 74; refine (cmpStr_any _ _ _).mono ?_; rintro e w' ⟨rfl, rfl⟩)
  go_ret
  exact ⟨rfl, rfl⟩

theorem ordL_drop {l m : List LT} {k : Nat} {c d : LT} (hc : l[k]? = some c) (hd : m[k]? = some d) : ordL (l.drop k) (m.drop k) = lex (ordF c d) (ordL (l.drop (k + 1)) (m.drop (k + 1))) := by
  have h1 := List.getElem?_eq_some_iff.1 hc
  have h2 := List.getElem?_eq_some_iff.1 hd
  rw [List.drop_eq_getElem_cons h1.1, List.drop_eq_getElem_cons h2.1, h1.2, h2.2]
  simp only [ordL]
set_option maxRecDepth 100000 in
set_option maxHeartbeats 2000000 in
theorem cmpFunc_any (n₀ : Nat) (w : World) (x y : Node) (l m : List LT) (hx : IsT n₀ w (.mk x l)) (hy : IsT n₀ w (.mk y m)) (hn : n₀ ≤ w.heap.size)
    (H : ∀ c ∈ l, ∀ d ∈ m, ∀ W, Below w.heap.size w W → Calls Tryz.prog 44 #[c.node.val, d.node.val] W fun e W' => e = .returned (.int .i64 (ordF c d)) ∧ Below W.heap.size W W') :
    Calls Tryz.prog 63 #[.slice x.a x.len x.cap, .slice y.a y.len y.cap, .func (.func 44) #[] #[]] w fun e w' => e = .returned (.int .i64 (ordL l m)) ∧ Below w.heap.size w w' := by
  cases hx with
  | mk _ _ hlx _ hmx hcx _ =>
  cases hy with
  | mk _ _ hly _ hmy hcy _ =>
  obtain ⟨xk, xn, xs, xa, xl, xc⟩ := x
  obtain ⟨yk, yn, ys, ya, yl, yc⟩ := y
  simp only at hlx hmx hcx hly hmy hcy
  have hxl : (xl : Int) ≤ 140737488351232 := by omega
  have hyl : (yl : Int) ≤ 140737488351232 := by omega
  have HX := Lib.hid hcx
  have HY := Lib.hid hcy
  have HLX := Lib.hid hlx
  have HLY := Lib.hid hly
  have HH := Lib.hid H
  clear hcx hcy hlx hly H hmx hmy
  go_enter Tryz.func63, Tryz.ntmps63
  go_wp2
  go_loopw [13] (fun i wr => ∃ k : Nat, k ≤ xl ∧ k ≤ yl ∧ i = .int .i64 k ∧ ordL l m = ordL (l.drop k) (m.drop k) ∧ Below w.heap.size w wr) (fun i _ => xl - (intOf i).toNat)
  case atStart => exact ⟨0, Nat.zero_le _, Nat.zero_le _, rfl, rfl, Below.refl _ _⟩
  case round =>
    obtain ⟨k, hkx, hky, rfl, heq, hb⟩ := hrel
    have HE := Lib.hid heq
    have HB := Lib.hid hb
    have hbs := hb.size
    clear heq
    by_cases hlt : k < xl
    · have hkl : k < l.length := by have := HLX.out; omega
      obtain ⟨c, hcc⟩ : ∃ c, l[k]? = some c := ⟨l[k], by simp [hkl]⟩
      obtain ⟨b, off, rfl, hbb, e0, e1, e2, e3⟩ := HX.out k c hcc
      have f0 := ((hb.mono hn).cell (p := ⟨b, off + k * 4, none⟩) hbb).trans e0
      have f1 := ((hb.mono hn).cell (p := ⟨b, off + k * 4 + 1, none⟩) hbb).trans e1
      have f2 := ((hb.mono hn).cell (p := ⟨b, off + k * 4 + 2, none⟩) hbb).trans e2
      have f3 := ((hb.mono hn).cell (p := ⟨b, off + k * 4 + 3, none⟩) hbb).trans e3
      have ne1 : wr.heap.size ≠ b := by omega
      have ne2 : b ≠ wr.heap.size := by omega
      by_cases hlt2 : k < yl
      · have hkm : k < m.length := by have := HLY.out; omega
        obtain ⟨d, hdd⟩ : ∃ d, m[k]? = some d := ⟨m[k], by simp [hkm]⟩
        obtain ⟨b', off', rfl, hbb', e0', e1', e2', e3'⟩ := HY.out k d hdd
        have g0 := Below.cell_al (.cells #[.int .i64 c.node.k, .int .i64 c.node.n, .string c.node.s, .slice c.node.a c.node.len c.node.cap] 24) (((hb.mono hn).cell (p := ⟨b', off' + k * 4, none⟩) hbb').trans e0')
        have g1 := Below.cell_al (.cells #[.int .i64 c.node.k, .int .i64 c.node.n, .string c.node.s, .slice c.node.a c.node.len c.node.cap] 24) (((hb.mono hn).cell (p := ⟨b', off' + k * 4 + 1, none⟩) hbb').trans e1')
        have g2 := Below.cell_al (.cells #[.int .i64 c.node.k, .int .i64 c.node.n, .string c.node.s, .slice c.node.a c.node.len c.node.cap] 24) (((hb.mono hn).cell (p := ⟨b', off' + k * 4 + 2, none⟩) hbb').trans e2')
        have g3 := Below.cell_al (.cells #[.int .i64 c.node.k, .int .i64 c.node.n, .string c.node.s, .slice c.node.a c.node.len c.node.cap] 24) (((hb.mono hn).cell (p := ⟨b', off' + k * 4 + 3, none⟩) hbb').trans e3')
        have hdr := ordL_drop hcc hdd
        have hC := HH.out c (List.mem_of_getElem? hcc) d (List.mem_of_getElem? hdd)
        obtain ⟨r, hr⟩ : ∃ r, ordF c d = r := ⟨_, rfl⟩
        rw [hr] at hC hdr
        have HD := Lib.hid hdr
        have hC' : Calls Tryz.prog 44 #[.agg #[.int .i64 c.node.k, .int .i64 c.node.n, .string c.node.s, .slice c.node.a c.node.len c.node.cap], .agg #[.int .i64 d.node.k, .int .i64 d.node.n, .string d.node.s, .slice d.node.a d.node.len d.node.cap]] ((wr.alloc (.cells #[.int .i64 c.node.k, .int .i64 c.node.n, .string c.node.s, .slice c.node.a c.node.len c.node.cap] 24)).alloc (.cells #[.int .i64 d.node.k, .int .i64 d.node.n, .string d.node.s, .slice d.node.a d.node.len d.node.cap] 24)) fun e W' =>
            e = .returned (.int .i64 r) ∧ Hid (Below w.heap.size w W') := by
          have hbw := (hb.alloc hbs (.cells #[.int .i64 c.node.k, .int .i64 c.node.n, .string c.node.s, .slice c.node.a c.node.len c.node.cap] 24)).alloc (by simp; omega) (.cells #[.int .i64 d.node.k, .int .i64 d.node.n, .string d.node.s, .slice d.node.a d.node.len d.node.cap] 24)
          exact (hC _ hbw).mono fun e W' h => ⟨h.1, Lib.hid (hbw.trans (h.2.mono hbw.size))⟩
        clear hdr hr hC hb e0 e1 e2 e3 e0' e1' e2' e3' hkl hkm hbb hbb' hcc hdd hbs hn
        by_cases hr0 : r = 0
        all_goals
          go_wp2_with (go_at_call 44; refine hC'.mono ?_; clear hC'; rintro e W4 ⟨rfl, HB4⟩)
        · go_roundw
          case rel =>
            have h1 := HE.out
            have h2 := HD.out
            exact ⟨k + 1, by omega, by omega, by go_num, by rw [h1, h2, hr0]; rfl, HB4.out⟩
          case measure => simp [intOf]; omega
        · go_ret
          have h1 := HE.out
          have h2 := HD.out
          exact ⟨ret_int (by rw [h1, h2]; unfold lex; rw [if_neg hr0]), HB4.out⟩
      · clear hb e0 e1 e2 e3
        go_wp2
        go_ret
        have h1 := HE.out
        have hk : m.drop k = [] := List.drop_eq_nil_iff.2 (by have := HLY.out; omega)
        have h2 := List.getElem?_eq_some_iff.1 hcc
        exact ⟨ret_int (by rw [h1, hk, List.drop_eq_getElem_cons h2.1]; simp [ordL]), HB.out.alloc hbs _⟩
    · have hk1 : l.drop k = [] := List.drop_eq_nil_iff.2 (by have := HLX.out; omega)
      have HK := Lib.hid hk1
      clear hk1 hb
      obtain rfl : k = xl := by omega
      by_cases h2 : k < yl
      all_goals
        go_wp2
        go_ret
        have h1 := HE.out
        have h0 := HK.out
        have h3 := HLY.out
        refine ⟨ret_int ?_, HB.out⟩
        rw [h1, h0]
      · rw [List.drop_eq_getElem_cons (show k < m.length by omega)]; simp [ordL]
      · rw [List.drop_eq_nil_iff.2 (show m.length ≤ k by omega)]; simp [ordL]

theorem ordF_k {x y : Node} {l m : List LT} (h : x.k ≠ y.k) : ordF (.mk x l) (.mk y m) = Lib.compareInt x.k y.k := by
  simp only [ordF]; rw [lex, if_neg (fun e => h ((cmpI_zero _ _).1 e))]
theorem ordF_n {x y : Node} {l m : List LT} (h0 : x.k = y.k) (h : x.n ≠ y.n) : ordF (.mk x l) (.mk y m) = Lib.compareInt x.n y.n := by
  simp only [ordF]; rw [lex, if_pos ((cmpI_zero _ _).2 h0), lex, if_neg (fun e => h ((cmpI_zero _ _).1 e))]
theorem ordF_s {x y : Node} {l m : List LT} (h0 : x.k = y.k) (h1 : x.n = y.n) (h : x.s ≠ y.s) : ordF (.mk x l) (.mk y m) = Lib.compareBytes x.s.data.toList y.s.data.toList := by
  simp only [ordF]; rw [lex, if_pos ((cmpI_zero _ _).2 h0), lex, if_pos ((cmpI_zero _ _).2 h1), lex, if_neg (fun e => h ((str_eq _ _).1 ((cmpB_zero _ _).1 e)))]
theorem ordF_l {x y : Node} {l m : List LT} (h0 : x.k = y.k) (h1 : x.n = y.n) (h : x.s = y.s) : ordF (.mk x l) (.mk y m) = ordL l m := by
  simp only [ordF]; rw [lex, if_pos ((cmpI_zero _ _).2 h0), lex, if_pos ((cmpI_zero _ _).2 h1), lex, if_pos ((cmpB_zero _ _).2 ((str_eq _ _).2 h))]
theorem IsT.kid {n₀ : Nat} {W : World} {x : Node} {l : List LT} (h : IsT n₀ W (.mk x l)) : ∀ c ∈ l, IsT n₀ W c := by
  cases h with
  | mk _ _ _ _ _ _ hk => exact hk
theorem str_ne {s u : ByteArray} (h : ¬ s = u) : (s.toList == u.toList) = false := by
  rw [beq_eq_false_iff_ne]
  intro e
  exact h ((str_eq _ _).1 (by rw [← Lib.toList_data, ← Lib.toList_data, e]))
set_option maxRecDepth 100000 in
set_option maxHeartbeats 2000000 in
theorem order_any : ∀ (sz : Nat) (A B : LT), A.ht ≤ sz → ∀ (n₀ : Nat) (w : World), IsT n₀ w A → IsT n₀ w B → n₀ ≤ w.heap.size →
    Calls Tryz.prog 44 #[A.node.val, B.node.val] w fun e w' => e = .returned (.int .i64 (ordF A B)) ∧ Below w.heap.size w w' := by
  intro sz
  induction sz with
  | zero => intro A B hA; cases A; simp [LT.ht] at hA
  | succ sz ih =>
    intro A B hA n₀ w hTA hTB hn
    obtain ⟨x, l⟩ := A
    obtain ⟨y, m⟩ := B
    simp only [LT.ht] at hA
    obtain ⟨W2, hW2⟩ : ∃ W2, (w.alloc (.cells #[.int .i64 x.k, .int .i64 x.n, .string x.s, .slice x.a x.len x.cap] 24)).alloc (.cells #[.int .i64 y.k, .int .i64 y.n, .string y.s, .slice y.a y.len y.cap] 24) = W2 := ⟨_, rfl⟩
    have hb2 : Below w.heap.size w W2 := by rw [← hW2]; exact ((Below.refl _ _).alloc (Nat.le_refl _) _).alloc (by simp) _
    have hF := cmpFunc_any n₀ W2 x y l m (hTA.bel (hb2.mono hn)) (hTB.bel (hb2.mono hn)) (by have := hb2.size; omega) (fun c hc d hd W hW => by
      have hbw : Below n₀ w W := (hb2.mono hn).trans (hW.mono (by have := hb2.size; omega))
      exact ih c d (by have := LT.ht_mem hc; omega) n₀ W ((hTA.kid c hc).bel hbw) ((hTB.kid d hd).bel hbw) (by have := hW.size; have := hb2.size; omega))
    have hF' : Calls Tryz.prog 63 #[.slice x.a x.len x.cap, .slice y.a y.len y.cap, .func (.func 44) #[] #[]] W2 fun e w' => e = .returned (.int .i64 (ordL l m)) ∧ Hid (Below w.heap.size w w') :=
      hF.mono fun e w' h => ⟨h.1, Lib.hid (hb2.trans (h.2.mono hb2.size))⟩
    have HB := Lib.hid hb2
    rw [← hW2] at hF' HB
    clear hF ih hTA hTB hA hW2 hb2 hn
    obtain ⟨r, hr⟩ : ∃ r, ordF (.mk x l) (.mk y m) = r := ⟨_, rfl⟩
    have HR := Lib.hid hr
    rw [hr]
    clear hr
    obtain ⟨xk, xn, xs, xa, xl, xc⟩ := x
    obtain ⟨yk, yn, ys, ya, yl, yc⟩ := y
    dsimp only [LT.node, Node.val]
    dsimp only at hF' HB
    by_cases hk : xk = yk
    · subst hk
      by_cases hn : xn = yn
      · subst hn
        by_cases hs : xs = ys
        · subst hs
          have h1 := HR.out
          rw [ordF_l (x := ⟨xk, xn, xs, xa, xl, xc⟩) (y := ⟨xk, xn, xs, ya, yl, yc⟩) rfl rfl rfl] at h1
          rw [h1] at hF'
          clear h1 HR
          go_enter Tryz.func44, Tryz.ntmps44
          go_wp2_with (go_at_call 63; refine hF'.mono ?_; clear hF'; rintro e W3 ⟨rfl, H3⟩)
          go_ret
          exact ⟨rfl, H3.out⟩
        · have h1 := HR.out
          rw [ordF_s (x := ⟨xk, xn, xs, xa, xl, xc⟩) (y := ⟨xk, xn, ys, ya, yl, yc⟩) rfl rfl hs] at h1
          clear hF'
          have HR1 := Lib.hid h1
          have hs' := str_ne hs
          clear h1 HR hs
          go_enter Tryz.func44, Tryz.ntmps44
          go_wp2_with (go_at_call 62; refine (strCmp_any _ _ _).mono ?_; rintro e w' ⟨rfl, rfl⟩)
          go_ret
          exact ⟨ret_int HR1.out, HB.out⟩
      · have h1 := HR.out
        rw [ordF_n (x := ⟨xk, xn, xs, xa, xl, xc⟩) (y := ⟨xk, yn, ys, ya, yl, yc⟩) rfl hn] at h1
        clear hF'
        have HR1 := Lib.hid h1
        clear h1 HR
        go_enter Tryz.func44, Tryz.ntmps44
        go_wp2_with (go_at_call 61; refine (cmpInt_any _ _ _).mono ?_; rintro e w' ⟨rfl, rfl⟩)
        go_ret
        exact ⟨ret_int HR1.out, HB.out⟩
    · have h1 := HR.out
      rw [ordF_k (x := ⟨xk, xn, xs, xa, xl, xc⟩) (y := ⟨yk, yn, ys, ya, yl, yc⟩) hk] at h1
      clear hF'
      have HR1 := Lib.hid h1
      clear h1 HR
      go_enter Tryz.func44, Tryz.ntmps44
      go_wp2_with (go_at_call 61; refine (cmpInt_any _ _ _).mono ?_; rintro e w' ⟨rfl, rfl⟩)
      go_ret
      exact ⟨ret_int HR1.out, HB.out⟩
end Go.Proofs.YtofboalgbgipoaaGreatDoor
