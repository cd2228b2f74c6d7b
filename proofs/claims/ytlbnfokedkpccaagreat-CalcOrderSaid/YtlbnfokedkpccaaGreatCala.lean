/- Values, as trees: what is valid; Size, Check; which one is ahead; Compare: of the program alone. -/
import Derived.Test.YtlbnfokedkpccaaGreatVale
import Derived.Test.YtlbnfokedkpccaaGreatValr
import Derived.Lib.Strings
import Derived.Lib.Slices
import Derived.Lib.Walk
import Derived.Deep.RegionHeld3
import Derived.Deep.Cut
set_option linter.all false
namespace Go.Proofs.YtlbnfokedkpccaaGreat
open Go.RowKit Go.Shelf
attribute [local go_sem] Oper.semAt_some
theorem Below.cell_al {W : World} {p : Addr} {v : Value} (o : Obj) (h : W.cell? p = some v) : (W.alloc o).cell? p = some v :=
  (((Below.refl W.heap.size W).alloc (Nat.le_refl _) o).cell (p := p) (cell_lt (b := p.block) (o := p.off) (v := v) (by
    unfold World.cell? at h ⊢
    split at h <;> try (cases h; done)
    rename_i hh
    simp only [hh]
    split at h
    · cases h
    · simpa using h))).trans h
set_option maxRecDepth 100000 in
set_option maxHeartbeats 1000000 in
theorem Size_all (T : LT) (w : World) (hT : IsT w.heap.size w T) (hS : ∀ x ∈ T.pre 1, x.2.s.size ≤ maxLen ∧ x.2.len ≤ maxLen) :
    Calls Tryz.prog 160 #[T.node.val] w fun e w' => e = .returned (.tuple #[.int .i64 (sizeF T), .int .i64 (if sizeF T = 0 then 1 else 0)]) ∧ Below w.heap.size w w' := by
  obtain ⟨n, hn⟩ : ∃ n, sizeF T = n := ⟨_, rfl⟩
  obtain ⟨⟨xk, xn, xs, xa, xl, xc⟩, kids⟩ := T
  have hbV : Below w.heap.size w (w.alloc (.cells #[.int .i64 xk, .int .i64 xn, .string xs, .slice xa xl xc] 44)) := (Below.refl _ _).alloc (Nat.le_refl _) _
  have hcall := measure_any _ _ ((hT.bel hbV).more hbV.size) hS
  rw [hn] at hcall ⊢
  dsimp only [LT.node, Node.val] at hcall ⊢
  clear hT hS hn
  have HB := Lib.hid hbV
  clear hbV
  by_cases h0 : n = 0
  all_goals
    go_enter Tryz.func160, Tryz.ntmps160
    go_wp2_with (go_at_call 184; refine hcall.mono ?_; clear hcall; rintro e w' ⟨rfl, hb⟩)
    go_ret2
    refine ⟨?_, HB.out.trans (hb.mono HB.out.size)⟩
    simp [h0]
set_option maxRecDepth 100000 in
set_option maxHeartbeats 1000000 in
theorem Check_all (T : LT) (w : World) (hT : IsT w.heap.size w T) (hS : ∀ x ∈ T.pre 1, x.2.s.size ≤ maxLen ∧ x.2.len ≤ maxLen) :
    Calls Tryz.prog 131 #[T.node.val] w fun e w' => e = .returned (.int .i64 (if sizeF T = 0 then 1 else 0)) ∧ Below w.heap.size w w' := by
  obtain ⟨n, hn⟩ : ∃ n, sizeF T = n := ⟨_, rfl⟩
  obtain ⟨⟨xk, xn, xs, xa, xl, xc⟩, kids⟩ := T
  have hbV : Below w.heap.size w (w.alloc (.cells #[.int .i64 xk, .int .i64 xn, .string xs, .slice xa xl xc] 44)) := (Below.refl _ _).alloc (Nat.le_refl _) _
  have hcall := Size_all _ _ ((hT.bel hbV).more hbV.size) hS
  rw [hn] at hcall ⊢
  dsimp only [LT.node, Node.val] at hcall ⊢
  clear hT hS hn
  obtain ⟨r, hr⟩ : ∃ r : Int, (if n = 0 then 1 else 0) = r := ⟨_, rfl⟩
  rw [hr] at hcall ⊢
  clear hr
  have HB := Lib.hid hbV
  clear hbV
  go_enter Tryz.func131, Tryz.ntmps131
  go_wp2_with (go_at_call 160; refine hcall.mono ?_; clear hcall; rintro e w' ⟨rfl, hb⟩)
  go_ret
  exact ⟨rfl, HB.out.trans (hb.mono HB.out.size)⟩
mutual
def LT.cnt : LT → Nat
  | .mk _ l => LT.cntL l + 1
def LT.cntL : List LT → Nat
  | [] => 0
  | t :: l => LT.cnt t + LT.cntL l
end
mutual
theorem LT.pre_len : ∀ (T : LT) (d : Int), (LT.pre d T).length = T.cnt
  | .mk x l, d => by simp [LT.pre, LT.cnt, LT.preL_len l (d + 1)]
theorem LT.preL_len : ∀ (l : List LT) (d : Int), (LT.preL d l).length = LT.cntL l
  | [], d => by simp [LT.preL, LT.cntL]
  | t :: l, d => by simp [LT.preL, LT.cntL, LT.pre_len t d, LT.preL_len l d]
end
theorem LT.cntL_le {N : Nat} : ∀ {l : List LT}, (∀ c ∈ l, c.cnt ≤ N) → LT.cntL l ≤ l.length * N
  | [], _ => by simp [LT.cntL]
  | t :: l, h => by
    have h1 := h t (by simp)
    have h2 := LT.cntL_le (l := l) (fun c hc => h c (by simp [hc]))
    simp only [LT.cntL, List.length_cons, Nat.add_mul]
    omega
theorem LT.htL_le {N : Nat} : ∀ {l : List LT}, (∀ c ∈ l, c.ht ≤ N) → LT.htL l ≤ N
  | [], _ => by simp [LT.htL]
  | t :: l, h => by
    have h1 := h t (by simp)
    have h2 := LT.htL_le (l := l) (fun c hc => h c (by simp [hc]))
    simp only [LT.htL]
    omega
/-- All of a value's nodes are valid by themselves. -/
inductive OkV : LT → Prop
  | mk (x : Node) (l : List LT) (hx : okNode x.k x.n x.s.data.toList x.len = true) (hs : x.s.size ≤ 100) (hl : x.len ≤ 8) (hk : ∀ c ∈ l, OkV c) : OkV (.mk x l)
/-- How deep the values of a value lie. -/
theorem OkV.nodes {V : LT} (h : OkV V) : ∀ (d : Int) (x : Int × Node), x ∈ LT.pre d V → okNode x.2.k x.2.n x.2.s.data.toList x.2.len = true ∧ x.2.s.size ≤ 100 ∧ x.2.len ≤ 8 ∧ d ≤ x.1 ∧ x.1 + 1 ≤ d + V.ht := by
  induction h with
  | mk y l hx hs hl hk ih =>
    intro d x hm
    simp only [LT.pre, List.mem_cons] at hm
    rcases hm with rfl | hm
    · exact ⟨hx, hs, hl, by omega, by simp only [LT.ht]; omega⟩
    · have : ∀ (m : List LT), (∀ c ∈ m, c ∈ l) → x ∈ LT.preL (d + 1) m → ∃ c ∈ l, x ∈ LT.pre (d + 1) c := by
        intro m
        induction m with
        | nil => intro _ h; simp [LT.preL] at h
        | cons t m ihm =>
          intro hsub h
          simp only [LT.preL, List.mem_append] at h
          rcases h with h | h
          · exact ⟨t, hsub t (by simp), h⟩
          · exact ihm (fun c hc => hsub c (by simp [hc])) h
      obtain ⟨c, hc, hxc⟩ := this l (fun c h => h) hm
      obtain ⟨h1, h2, h3, h4, h5⟩ := ih c hc (d + 1) x hxc
      have h6 := LT.ht_mem hc
      refine ⟨h1, h2, h3, by omega, ?_⟩
      simp only [LT.ht]
      omega
theorem cells4 {W : World} {B : Nat} {t : TypeId} {a b c d : Value} (h : W.heap[B]? = some (.cells #[a, b, c, d] t (0, 0))) :
    (W.cell? ⟨B, 0, none⟩ = some a ∧ W.cell? ⟨B, 1, none⟩ = some b ∧ W.cell? ⟨B, 2, none⟩ = some c ∧ W.cell? ⟨B, 3, none⟩ = some d) ∧ (W.frozen? ⟨B, 0, none⟩ = false ∧ W.frozen? ⟨B, 1, none⟩ = false ∧ W.frozen? ⟨B, 2, none⟩ = false ∧ W.frozen? ⟨B, 3, none⟩ = false) := by
  simp [World.cell?, World.frozen?, h]
theorem OkV.lens {V : LT} (h : OkV V) : ∀ x ∈ V.pre 1, x.2.s.size ≤ maxLen ∧ x.2.len ≤ maxLen := fun x hx => by
  obtain ⟨_, h2, h3, _⟩ := h.nodes 1 x hx
  unfold maxLen
  omega
theorem LT.cnt_pos (V : LT) : 1 ≤ V.cnt := by cases V; simp [LT.cnt]
open Go.RowKit Go.Shelf
attribute [local go_sem] Oper.semAt_some
set_option maxHeartbeats 1000000 in
theorem cmpInt_any (x y : Int) (w : World) :
    Calls Tryz.prog 187 #[.int .i64 x, .int .i64 y] w fun e w' => e = .returned (.int .i64 (Lib.compareInt x y)) ∧ w' = w := by
  rcases Int.lt_trichotomy x y with h | h | h
  all_goals
    have h1 : Lib.compareInt x y = if x < y then -1 else if x > y then 1 else 0 := rfl
    have H1 := Lib.hid h1
    clear h1
    (try subst h)
    go_enter Tryz.func187, Tryz.ntmps187
    go_wp2
    go_ret
    refine ⟨ret_int ?_, rfl⟩
    rw [H1.out]
    simp
    try omega
set_option maxHeartbeats 1000000 in
set_option maxRecDepth 100000 in
theorem cmpStr_any (a b : ByteArray) (w : World) :
    Calls Tryz.prog 194 #[.string a, .string b] w fun e w' => e = .returned (.int .i64 (Lib.compareBytes a.data.toList b.data.toList)) ∧ w' = w := by
  obtain ⟨r, hr⟩ : ∃ r, Lib.compareBytes a.data.toList b.data.toList = r := ⟨_, rfl⟩
  have hx := @Lib.run_compareString Tryz.prog a b w
  rw [hr] at hx ⊢
  clear hr
  go_enter Tryz.func194, Tryz.ntmps194
  go_wp2
  rw [run_callFunc_extern Tryz.func199 (by kernel_rfl) (by kernel_rfl) (by kernel_rfl) (e := Extern.BytealgCompare.compare) (by kernel_rfl), hx]
  clear hx
  simp only [Result.andThen]
  rw [Oper.upon_value]
  go_wp2
  go_ret
  exact ⟨rfl, rfl⟩
set_option maxHeartbeats 1000000 in
theorem strCmp_any (a b : ByteArray) (w : World) :
    Calls Tryz.prog 188 #[.string a, .string b] w fun e w' => e = .returned (.int .i64 (Lib.compareBytes a.data.toList b.data.toList)) ∧ w' = w := by
  go_enter Tryz.func188, Tryz.ntmps188
  go_wp2_with (go_at_call 194; refine (cmpStr_any _ _ _).mono ?_; rintro e w' ⟨rfl, rfl⟩)
  go_ret
  exact ⟨rfl, rfl⟩
theorem ordL_drop {l m : List LT} {k : Nat} {c d : LT} (hc : l[k]? = some c) (hd : m[k]? = some d) : ordL (l.drop k) (m.drop k) = lex (ordF c d) (ordL (l.drop (k + 1)) (m.drop (k + 1))) := by
  have h1 := List.getElem?_eq_some_iff.1 hc
  have h2 := List.getElem?_eq_some_iff.1 hd
  rw [List.drop_eq_getElem_cons h1.1, List.drop_eq_getElem_cons h2.1, h1.2, h2.2]
  simp only [ordL]
set_option maxRecDepth 100000 in
set_option maxHeartbeats 2000000 in
theorem cmpFunc_any (n₀ : Nat) (w : World) (x y : Node) (l m : List LT) (hx : IsT n₀ w (.mk x l)) (hy : IsT n₀ w (.mk y m)) (hn : n₀ ≤ w.heap.size)
    (H : ∀ c ∈ l, ∀ d ∈ m, ∀ W, Below w.heap.size w W → Calls Tryz.prog 161 #[c.node.val, d.node.val] W fun e W' => e = .returned (.int .i64 (ordF c d)) ∧ Below W.heap.size W W') :
    Calls Tryz.prog 189 #[.slice x.a x.len x.cap, .slice y.a y.len y.cap, .func (.func 161) #[] #[]] w fun e w' => e = .returned (.int .i64 (ordL l m)) ∧ Below w.heap.size w w' := by
  cases hx with
  | mk _ _ hlx _ hmx hcx _ =>
  cases hy with
  | mk _ _ hly _ hmy hcy _ =>
  obtain ⟨xk, xn, xs, xa, xl, xc⟩ := x
  obtain ⟨yk, yn, ys, ya, yl, yc⟩ := y
  simp only at hlx hmx hcx hly hmy hcy
  have hxl : (xl : Int) ≤ 140737488351232 := by omega
  have hyl : (yl : Int) ≤ 140737488351232 := by omega
  have HX := Lib.hid hcx
  have HY := Lib.hid hcy
  have HLX := Lib.hid hlx
  have HLY := Lib.hid hly
  have HH := Lib.hid H
  clear hcx hcy hlx hly H hmx hmy
  go_enter Tryz.func189, Tryz.ntmps189
  go_wp2
  go_loopw [13] (fun i wr => ∃ k : Nat, k ≤ xl ∧ k ≤ yl ∧ i = .int .i64 k ∧ ordL l m = ordL (l.drop k) (m.drop k) ∧ Below w.heap.size w wr) (fun i _ => xl - (intOf i).toNat)
  case atStart => exact ⟨0, Nat.zero_le _, Nat.zero_le _, rfl, rfl, Below.refl _ _⟩
  case round =>
    obtain ⟨k, hkx, hky, rfl, heq, hb⟩ := hrel
    have HE := Lib.hid heq
    have HB := Lib.hid hb
    have hbs := hb.size
    clear heq
    by_cases hlt : k < xl
    · have hkl : k < l.length := by have := HLX.out; omega
      obtain ⟨c, hcc⟩ : ∃ c, l[k]? = some c := ⟨l[k], by simp [hkl]⟩
      obtain ⟨b, off, rfl, hbb, e0, e1, e2, e3⟩ := HX.out k c hcc
      have f0 := ((hb.mono hn).cell (p := ⟨b, off + k * 4, none⟩) hbb).trans e0
      have f1 := ((hb.mono hn).cell (p := ⟨b, off + k * 4 + 1, none⟩) hbb).trans e1
      have f2 := ((hb.mono hn).cell (p := ⟨b, off + k * 4 + 2, none⟩) hbb).trans e2
      have f3 := ((hb.mono hn).cell (p := ⟨b, off + k * 4 + 3, none⟩) hbb).trans e3
      have ne1 : wr.heap.size ≠ b := by omega
      have ne2 : b ≠ wr.heap.size := by omega
      by_cases hlt2 : k < yl
      · have hkm : k < m.length := by have := HLY.out; omega
        obtain ⟨d, hdd⟩ : ∃ d, m[k]? = some d := ⟨m[k], by simp [hkm]⟩
        obtain ⟨b', off', rfl, hbb', e0', e1', e2', e3'⟩ := HY.out k d hdd
        have g0 := Below.cell_al (.cells #[.int .i64 c.node.k, .int .i64 c.node.n, .string c.node.s, .slice c.node.a c.node.len c.node.cap] 44) (((hb.mono hn).cell (p := ⟨b', off' + k * 4, none⟩) hbb').trans e0')
        have g1 := Below.cell_al (.cells #[.int .i64 c.node.k, .int .i64 c.node.n, .string c.node.s, .slice c.node.a c.node.len c.node.cap] 44) (((hb.mono hn).cell (p := ⟨b', off' + k * 4 + 1, none⟩) hbb').trans e1')
        have g2 := Below.cell_al (.cells #[.int .i64 c.node.k, .int .i64 c.node.n, .string c.node.s, .slice c.node.a c.node.len c.node.cap] 44) (((hb.mono hn).cell (p := ⟨b', off' + k * 4 + 2, none⟩) hbb').trans e2')
        have g3 := Below.cell_al (.cells #[.int .i64 c.node.k, .int .i64 c.node.n, .string c.node.s, .slice c.node.a c.node.len c.node.cap] 44) (((hb.mono hn).cell (p := ⟨b', off' + k * 4 + 3, none⟩) hbb').trans e3')
        have hdr := ordL_drop hcc hdd
        have hC := HH.out c (List.mem_of_getElem? hcc) d (List.mem_of_getElem? hdd)
        obtain ⟨r, hr⟩ : ∃ r, ordF c d = r := ⟨_, rfl⟩
        rw [hr] at hC hdr
        have HD := Lib.hid hdr
        have hC' : Calls Tryz.prog 161 #[.agg #[.int .i64 c.node.k, .int .i64 c.node.n, .string c.node.s, .slice c.node.a c.node.len c.node.cap], .agg #[.int .i64 d.node.k, .int .i64 d.node.n, .string d.node.s, .slice d.node.a d.node.len d.node.cap]] ((wr.alloc (.cells #[.int .i64 c.node.k, .int .i64 c.node.n, .string c.node.s, .slice c.node.a c.node.len c.node.cap] 44)).alloc (.cells #[.int .i64 d.node.k, .int .i64 d.node.n, .string d.node.s, .slice d.node.a d.node.len d.node.cap] 44)) fun e W' =>
            e = .returned (.int .i64 r) ∧ Hid (Below w.heap.size w W') := by
          have hbw := (hb.alloc hbs (.cells #[.int .i64 c.node.k, .int .i64 c.node.n, .string c.node.s, .slice c.node.a c.node.len c.node.cap] 44)).alloc (by simp; omega) (.cells #[.int .i64 d.node.k, .int .i64 d.node.n, .string d.node.s, .slice d.node.a d.node.len d.node.cap] 44)
          exact (hC _ hbw).mono fun e W' h => ⟨h.1, Lib.hid (hbw.trans (h.2.mono hbw.size))⟩
        clear hdr hr hC hb e0 e1 e2 e3 e0' e1' e2' e3' hkl hkm hbb hbb' hcc hdd hbs hn
        by_cases hr0 : r = 0
        all_goals
          go_wp2_with (go_at_call 161; refine hC'.mono ?_; clear hC'; rintro e W4 ⟨rfl, HB4⟩)
        · go_roundw
          case rel =>
            have h1 := HE.out
            have h2 := HD.out
            exact ⟨k + 1, by omega, by omega, by go_num, by rw [h1, h2, hr0]; rfl, HB4.out⟩
          case measure => simp [intOf]; omega
        · go_ret
          have h1 := HE.out
          have h2 := HD.out
          exact ⟨ret_int (by rw [h1, h2]; unfold lex; rw [if_neg hr0]), HB4.out⟩
      · clear hb e0 e1 e2 e3
        go_wp2
        go_ret
        have h1 := HE.out
        have hk : m.drop k = [] := List.drop_eq_nil_iff.2 (by have := HLY.out; omega)
        have h2 := List.getElem?_eq_some_iff.1 hcc
        exact ⟨ret_int (by rw [h1, hk, List.drop_eq_getElem_cons h2.1]; simp [ordL]), HB.out.alloc hbs _⟩
    · have hk1 : l.drop k = [] := List.drop_eq_nil_iff.2 (by have := HLX.out; omega)
      have HK := Lib.hid hk1
      clear hk1 hb
      obtain rfl : k = xl := by omega
      by_cases h2 : k < yl
      all_goals
        go_wp2
        go_ret
        have h1 := HE.out
        have h0 := HK.out
        have h3 := HLY.out
        refine ⟨ret_int ?_, HB.out⟩
        rw [h1, h0]
      · rw [List.drop_eq_getElem_cons (show k < m.length by omega)]; simp [ordL]
      · rw [List.drop_eq_nil_iff.2 (show m.length ≤ k by omega)]; simp [ordL]
theorem ordF_k {x y : Node} {l m : List LT} (h : x.k ≠ y.k) : ordF (.mk x l) (.mk y m) = Lib.compareInt x.k y.k := by
  simp only [ordF]; rw [lex, if_neg (fun e => h ((cmpI_zero _ _).1 e))]
theorem ordF_n {x y : Node} {l m : List LT} (h0 : x.k = y.k) (h : x.n ≠ y.n) : ordF (.mk x l) (.mk y m) = Lib.compareInt x.n y.n := by
  simp only [ordF]; rw [lex, if_pos ((cmpI_zero _ _).2 h0), lex, if_neg (fun e => h ((cmpI_zero _ _).1 e))]
theorem ordF_s {x y : Node} {l m : List LT} (h0 : x.k = y.k) (h1 : x.n = y.n) (h : x.s ≠ y.s) : ordF (.mk x l) (.mk y m) = Lib.compareBytes x.s.data.toList y.s.data.toList := by
  simp only [ordF]; rw [lex, if_pos ((cmpI_zero _ _).2 h0), lex, if_pos ((cmpI_zero _ _).2 h1), lex, if_neg (fun e => h ((str_eq _ _).1 ((cmpB_zero _ _).1 e)))]
theorem ordF_l {x y : Node} {l m : List LT} (h0 : x.k = y.k) (h1 : x.n = y.n) (h : x.s = y.s) : ordF (.mk x l) (.mk y m) = ordL l m := by
  simp only [ordF]; rw [lex, if_pos ((cmpI_zero _ _).2 h0), lex, if_pos ((cmpI_zero _ _).2 h1), lex, if_pos ((cmpB_zero _ _).2 ((str_eq _ _).2 h))]
theorem IsT.kid {n₀ : Nat} {W : World} {x : Node} {l : List LT} (h : IsT n₀ W (.mk x l)) : ∀ c ∈ l, IsT n₀ W c := by
  cases h with
  | mk _ _ _ _ _ _ hk => exact hk
theorem str_ne {s u : ByteArray} (h : ¬ s = u) : (s.toList == u.toList) = false := by
  rw [beq_eq_false_iff_ne]
  intro e
  exact h ((str_eq _ _).1 (by rw [← Lib.toList_data, ← Lib.toList_data, e]))
set_option maxRecDepth 100000 in
set_option maxHeartbeats 2000000 in
theorem order_any : ∀ (sz : Nat) (A B : LT), A.ht ≤ sz → ∀ (n₀ : Nat) (w : World), IsT n₀ w A → IsT n₀ w B → n₀ ≤ w.heap.size →
    Calls Tryz.prog 161 #[A.node.val, B.node.val] w fun e w' => e = .returned (.int .i64 (ordF A B)) ∧ Below w.heap.size w w' := by
  intro sz
  induction sz with
  | zero => intro A B hA; cases A; simp [LT.ht] at hA
  | succ sz ih =>
    intro A B hA n₀ w hTA hTB hn
    obtain ⟨x, l⟩ := A
    obtain ⟨y, m⟩ := B
    simp only [LT.ht] at hA
    obtain ⟨W2, hW2⟩ : ∃ W2, (w.alloc (.cells #[.int .i64 x.k, .int .i64 x.n, .string x.s, .slice x.a x.len x.cap] 44)).alloc (.cells #[.int .i64 y.k, .int .i64 y.n, .string y.s, .slice y.a y.len y.cap] 44) = W2 := ⟨_, rfl⟩
    have hb2 : Below w.heap.size w W2 := by rw [← hW2]; exact ((Below.refl _ _).alloc (Nat.le_refl _) _).alloc (by simp) _
    have hF := cmpFunc_any n₀ W2 x y l m (hTA.bel (hb2.mono hn)) (hTB.bel (hb2.mono hn)) (by have := hb2.size; omega) (fun c hc d hd W hW => by
      have hbw : Below n₀ w W := (hb2.mono hn).trans (hW.mono (by have := hb2.size; omega))
      exact ih c d (by have := LT.ht_mem hc; omega) n₀ W ((hTA.kid c hc).bel hbw) ((hTB.kid d hd).bel hbw) (by have := hW.size; have := hb2.size; omega))
    have hF' : Calls Tryz.prog 189 #[.slice x.a x.len x.cap, .slice y.a y.len y.cap, .func (.func 161) #[] #[]] W2 fun e w' => e = .returned (.int .i64 (ordL l m)) ∧ Hid (Below w.heap.size w w') :=
      hF.mono fun e w' h => ⟨h.1, Lib.hid (hb2.trans (h.2.mono hb2.size))⟩
    have HB := Lib.hid hb2
    rw [← hW2] at hF' HB
    clear hF ih hTA hTB hA hW2 hb2 hn
    obtain ⟨r, hr⟩ : ∃ r, ordF (.mk x l) (.mk y m) = r := ⟨_, rfl⟩
    have HR := Lib.hid hr
    rw [hr]
    clear hr
    obtain ⟨xk, xn, xs, xa, xl, xc⟩ := x
    obtain ⟨yk, yn, ys, ya, yl, yc⟩ := y
    dsimp only [LT.node, Node.val]
    dsimp only at hF' HB
    by_cases hk : xk = yk
    · subst hk
      by_cases hn : xn = yn
      · subst hn
        by_cases hs : xs = ys
        · subst hs
          have h1 := HR.out
          rw [ordF_l (x := ⟨xk, xn, xs, xa, xl, xc⟩) (y := ⟨xk, xn, xs, ya, yl, yc⟩) rfl rfl rfl] at h1
          rw [h1] at hF'
          clear h1 HR
          go_enter Tryz.func161, Tryz.ntmps161
          go_wp2_with (go_at_call 189; refine hF'.mono ?_; clear hF'; rintro e W3 ⟨rfl, H3⟩)
          go_ret
          exact ⟨rfl, H3.out⟩
        · have h1 := HR.out
          rw [ordF_s (x := ⟨xk, xn, xs, xa, xl, xc⟩) (y := ⟨xk, xn, ys, ya, yl, yc⟩) rfl rfl hs] at h1
          clear hF'
          have HR1 := Lib.hid h1
          have hs' := str_ne hs
          clear h1 HR hs
          go_enter Tryz.func161, Tryz.ntmps161
          go_wp2_with (go_at_call 188; refine (strCmp_any _ _ _).mono ?_; rintro e w' ⟨rfl, rfl⟩)
          go_ret
          exact ⟨ret_int HR1.out, HB.out⟩
      · have h1 := HR.out
        rw [ordF_n (x := ⟨xk, xn, xs, xa, xl, xc⟩) (y := ⟨xk, yn, ys, ya, yl, yc⟩) rfl hn] at h1
        clear hF'
        have HR1 := Lib.hid h1
        clear h1 HR
        go_enter Tryz.func161, Tryz.ntmps161
        go_wp2_with (go_at_call 187; refine (cmpInt_any _ _ _).mono ?_; rintro e w' ⟨rfl, rfl⟩)
        go_ret
        exact ⟨ret_int HR1.out, HB.out⟩
    · have h1 := HR.out
      rw [ordF_k (x := ⟨xk, xn, xs, xa, xl, xc⟩) (y := ⟨yk, yn, ys, ya, yl, yc⟩) hk] at h1
      clear hF'
      have HR1 := Lib.hid h1
      clear h1 HR
      go_enter Tryz.func161, Tryz.ntmps161
      go_wp2_with (go_at_call 187; refine (cmpInt_any _ _ _).mono ?_; rintro e w' ⟨rfl, rfl⟩)
      go_ret
      exact ⟨ret_int HR1.out, HB.out⟩
/-- A value whose nodes are valid, at most so many within one another. -/
def shapedF : Nat → LT → Bool
  | 0, _ => false
  | d + 1, .mk x l => okNode x.k x.n x.s.data.toList x.len && l.all (shapedF d)
/-- Is it valid? -/
def validF (T : LT) : Bool := shapedF 6 T && decide (T.cnt ≤ 60)
theorem okText_size {s : ByteArray} (h : okText s.data.toList = true) : s.size ≤ 100 := by
  unfold okText at h
  simp only [Bool.and_eq_true, decide_eq_true_eq] at h
  simpa using h.1
theorem okNode_small {k n : Int} {s : ByteArray} {len : Nat} (h : okNode k n s.data.toList len = true) : s.size ≤ 100 ∧ len ≤ 8 := by
  have e0 : s.data.toList.isEmpty = true → s.size ≤ 100 := fun h => by
    have := List.isEmpty_iff.1 h
    have h2 : s.data.toList.length = 0 := by rw [this]; rfl
    have h3 : s.size = 0 := by simpa using h2
    omega
  unfold okNode at h
  repeat' split at h
  all_goals (try simp only [Bool.and_eq_true, decide_eq_true_eq] at h)
  · exact ⟨e0 h.1.2, by omega⟩
  · exact ⟨okText_size h.1.2, by omega⟩
  · exact ⟨e0 h.1.2, h.2⟩
  · exact ⟨e0 h.1.2, by omega⟩
  · cases h
theorem shapedF_ok : ∀ (d : Nat) (T : LT), shapedF d T = true → OkV T ∧ T.ht ≤ d
  | 0, _, h => by simp [shapedF] at h
  | d + 1, .mk x l, h => by
    simp only [shapedF, Bool.and_eq_true, List.all_eq_true] at h
    obtain ⟨h1, h2⟩ := okNode_small h.1
    refine ⟨.mk _ _ h.1 h1 h2 (fun c hc => (shapedF_ok d c (h.2 c hc)).1), ?_⟩
    have := LT.htL_le (l := l) (N := d) (fun c hc => (shapedF_ok d c (h.2 c hc)).2)
    simp only [LT.ht]; omega
theorem shapedF_nodes : ∀ (d : Nat) (T : LT) (e : Int), e + d = 7 → ((LT.pre e T).all okAt = true ↔ shapedF d T = true)
  | 0, .mk x l, e, he => by
    simp only [LT.pre, List.all_cons, shapedF, okAt]
    rw [decide_eq_false (by show ¬ e ≤ 6; omega)]
    simp
  | d + 1, .mk x l, e, he => by
    have key : ∀ m : List LT, ((LT.preL (e + 1) m).all okAt = true ↔ m.all (shapedF d) = true) := by
      intro m
      induction m with
      | nil => simp [LT.preL]
      | cons t m ih =>
        simp only [LT.preL, List.all_append, List.all_cons, Bool.and_eq_true]
        rw [ih, shapedF_nodes d t (e + 1) (by omega)]
    simp only [LT.pre, List.all_cons, shapedF, Bool.and_eq_true]
    rw [key l]
    simp only [okAt, Bool.and_eq_true, decide_eq_true_eq]
    constructor
    · rintro ⟨⟨_, h1⟩, h2⟩; exact ⟨h1, h2⟩
    · rintro ⟨h1, h2⟩; exact ⟨⟨by omega, h1⟩, h2⟩
theorem okP_valid (T : LT) : okP (T.pre 1) ↔ validF T = true := by
  unfold okP validF
  rw [shapedF_nodes 6 T 1 (by omega), LT.pre_len, Bool.and_eq_true, decide_eq_true_eq]
  exact And.comm
theorem sizeF_valid (T : LT) : sizeF T = if validF T = true then (T.cnt : Int) else 0 := by
  unfold sizeF
  by_cases h : validF T = true
  · rw [if_pos h, if_pos ((okP_valid T).2 h), LT.pre_len]
  · rw [if_neg h, if_neg (fun h' => h ((okP_valid T).1 h'))]
theorem sizeF_zero (T : LT) : sizeF T = 0 ↔ validF T = false := by
  rw [sizeF_valid]
  cases h : validF T with
  | true => have := T.cnt_pos; simp; omega
  | false => simp
theorem validF_ok {T : LT} (h : validF T = true) : OkV T ∧ T.ht ≤ 6 ∧ T.cnt ≤ 60 := by
  unfold validF at h
  simp only [Bool.and_eq_true, decide_eq_true_eq] at h
  obtain ⟨h1, h2⟩ := shapedF_ok 6 T h.1
  exact ⟨h1, h2, h.2⟩
theorem OkV.parts {x : Node} {l : List LT} (h : OkV (.mk x l)) : okNode x.k x.n x.s.data.toList x.len = true ∧ x.s.size ≤ 100 ∧ x.len ≤ 8 ∧ ∀ c ∈ l, OkV c := by
  cases h with
  | mk _ _ h1 h2 h3 h4 => exact ⟨h1, h2, h3, h4⟩
/-- What lies behind two boxes of values. -/
theorem box2 (w : World) (a b : Array Value) (t : TypeId) : ((w.alloc (.cells a t)).alloc (.cells b t)).heap[w.heap.size]? = some (.cells a t (0, 0)) ∧ ((w.alloc (.cells a t)).alloc (.cells b t)).heap[w.heap.size + 1]? = some (.cells b t (0, 0)) := by
  refine ⟨(Below.heap_alloc _ _ _ (by simp)).trans (World.alloc_heap_new w _), ?_⟩
  have := World.alloc_heap_new (w.alloc (.cells a t)) (.cells b t)
  rwa [World.size_alloc] at this
/-- Sizes that a value that came in has. -/
abbrev Sized (T : LT) : Prop := ∀ x ∈ T.pre 1, x.2.s.size ≤ maxLen ∧ x.2.len ≤ maxLen
/-- What Compare answers. -/
def cmpN (A B : LT) : Int := if validF A = true ∧ validF B = true then ordF A B else 0
def cmpE (A B : LT) : Int := if validF A = true ∧ validF B = true then 0 else 1
set_option maxRecDepth 100000 in
set_option maxHeartbeats 4000000 in
theorem Compare_all (A B : LT) (hSA : Sized A) (hSB : Sized B) (n₀ : Nat) (w : World) (hTA : IsT n₀ w A) (hTB : IsT n₀ w B) (hn : n₀ ≤ w.heap.size) :
    Calls Tryz.prog 132 #[A.node.val, B.node.val] w fun e w' => e = .returned (.tuple #[.int .i64 (cmpN A B), .int .i64 (cmpE A B)]) ∧ Below w.heap.size w w' := by
  have ck : ∀ V : LT, Sized V → IsT n₀ w V → ∀ W, Below w.heap.size w W → Calls Tryz.prog 131 #[V.node.val] W fun e w' => e = .returned (.int .i64 (if validF V = true then 0 else 1)) ∧ Hid (Below W.heap.size W w') := by
    intro V hS hT W hW
    have hc := Check_all V W ((hT.bel (hW.mono hn)).more (by have := hW.size; omega)) hS
    have he : (if sizeF V = 0 then (1 : Int) else 0) = if validF V = true then 0 else 1 := by
      by_cases h : validF V = true
      · rw [if_pos h, if_neg (fun e => by rw [(sizeF_zero V).1 e] at h; cases h)]
      · rw [if_neg h, if_pos ((sizeF_zero V).2 (by simpa using h))]
    rw [he] at hc
    exact hc.mono fun e w' h => ⟨h.1, Lib.hid h.2⟩
  have HA := Lib.hid (ck A hSA hTA)
  have HB := Lib.hid (ck B hSB hTB)
  have HO : Hid (∀ W, Below w.heap.size w W → Calls Tryz.prog 161 #[A.node.val, B.node.val] W fun e w' => e = .returned (.int .i64 (ordF A B)) ∧ Hid (Below w.heap.size w w')) := Lib.hid fun W hW =>
    (order_any A.ht A B (Nat.le_refl _) n₀ W (hTA.bel (hW.mono hn)) (hTB.bel (hW.mono hn)) (by have := hW.size; omega)).mono fun e w' h => ⟨h.1, Lib.hid (hW.trans (h.2.mono hW.size))⟩
  clear ck hTA hTB hn hSA hSB
  unfold cmpN cmpE
  obtain ⟨r, hr⟩ : ∃ r, ordF A B = r := ⟨_, rfl⟩
  obtain ⟨p, hp⟩ : ∃ p, validF A = p := ⟨_, rfl⟩
  obtain ⟨q, hq⟩ : ∃ q, validF B = q := ⟨_, rfl⟩
  rw [hr] at HO
  rw [hp] at HA
  rw [hq] at HB
  rw [hr, hp, hq]
  clear hr hp hq
  obtain ⟨⟨xk, xn, xs, xa, xl, xc⟩, l⟩ := A
  obtain ⟨⟨yk, yn, ys, ya, yl, yc⟩, m⟩ := B
  dsimp only [LT.node, Node.val] at HA HB HO ⊢
  have HQ := Lib.hid (box2 w #[.int .i64 xk, .int .i64 xn, .string xs, .slice xa xl xc] #[.int .i64 yk, .int .i64 yn, .string ys, .slice ya yl yc] 44)
  have hbx : Below w.heap.size w ((w.alloc (.cells #[.int .i64 xk, .int .i64 xn, .string xs, .slice xa xl xc] 44)).alloc (.cells #[.int .i64 yk, .int .i64 yn, .string ys, .slice ya yl yc] 44)) := ((Below.refl _ _).alloc (Nat.le_refl _) _).alloc (by simp) _
  have HX := Lib.hid hbx
  clear hbx
  cases p with
  | false =>
    simp only [Bool.false_eq_true, if_false] at HA
    simp only [Bool.false_eq_true, false_and, and_false, and_self, if_false, if_true]
    go_enter Tryz.func132, Tryz.ntmps132
    go_wp2_with (go_at_call 131; refine (HA.out _ HX.out).mono ?_; rintro e W3 ⟨rfl, H3⟩)
    go_ret2
    exact ⟨rfl, HX.out.trans (H3.out.mono HX.out.size)⟩
  | true =>
    simp only [if_true] at HA
    cases q with
    | false =>
      simp only [Bool.false_eq_true, if_false] at HB
      simp only [Bool.false_eq_true, false_and, and_false, and_self, if_false, if_true]
      go_enter Tryz.func132, Tryz.ntmps132
      go_wp2_with (first
        | (go_at_call_of 131 (Value.agg #[.int .i64 xk, .int .i64 xn, .string xs, .slice xa xl xc]); refine (HA.out _ HX.out).mono ?_; rintro e W3 ⟨rfl, H3⟩; have H3' := Lib.hid (HX.out.trans (H3.out.mono HX.out.size)); obtain ⟨⟨b0, b1, b2, b3⟩, _⟩ := cells4 ((H3.out.block _ (Array.getElem?_eq_some_iff.1 HQ.out.2).1).trans HQ.out.2))
        | (go_at_call_of 131 (Value.agg #[.int .i64 yk, .int .i64 yn, .string ys, .slice ya yl yc]); refine (HB.out _ H3'.out).mono ?_; rintro e W4 ⟨rfl, H4⟩))
      go_ret2
      exact ⟨rfl, H3'.out.trans (H4.out.mono H3'.out.size)⟩
    | true =>
      simp only [if_true] at HB
      simp only [Bool.false_eq_true, false_and, and_false, and_self, if_false, if_true]
      go_enter Tryz.func132, Tryz.ntmps132
      go_wp2_with (first
        | (go_at_call_of 131 (Value.agg #[.int .i64 xk, .int .i64 xn, .string xs, .slice xa xl xc]); refine (HA.out _ HX.out).mono ?_; rintro e W3 ⟨rfl, H3⟩; have HP := Lib.hid (And.intro ((H3.out.block _ (Array.getElem?_eq_some_iff.1 HQ.out.1).1).trans HQ.out.1) ((H3.out.block _ (Array.getElem?_eq_some_iff.1 HQ.out.2).1).trans HQ.out.2)); have H3' := Lib.hid (HX.out.trans (H3.out.mono HX.out.size)); obtain ⟨⟨b0, b1, b2, b3⟩, _⟩ := cells4 HP.out.2)
        | (go_at_call_of 131 (Value.agg #[.int .i64 yk, .int .i64 yn, .string ys, .slice ya yl yc]); refine (HB.out _ H3'.out).mono ?_; rintro e W4 ⟨rfl, H4⟩; have H4' := Lib.hid (H3'.out.trans (H4.out.mono H3'.out.size)); obtain ⟨⟨c0, c1, c2, c3⟩, _⟩ := cells4 ((H4.out.block _ (Array.getElem?_eq_some_iff.1 HP.out.1).1).trans HP.out.1); obtain ⟨⟨d0, d1, d2, d3⟩, _⟩ := cells4 ((H4.out.block _ (Array.getElem?_eq_some_iff.1 HP.out.2).1).trans HP.out.2))
        | (go_at_call 161; refine (HO.out _ H4'.out).mono ?_; rintro e W5 ⟨rfl, H5⟩))
      go_ret2
      exact ⟨rfl, H5.out⟩
end Go.Proofs.YtlbnfokedkpccaaGreat
