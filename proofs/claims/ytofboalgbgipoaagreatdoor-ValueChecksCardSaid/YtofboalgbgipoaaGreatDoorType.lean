/- How many types are in a type. -/
import Derived.Test.YtofboalgbgipoaaGreatDoorTypd
set_option linter.all false
namespace Go.Proofs.YtofboalgbgipoaaGreatDoor
open Go.RowKit Go.Shelf
attribute [local go_sem] Oper.semAt_some

set_option maxHeartbeats 1000000 in
theorem tnodes_in (F : Fence) (n : Nat) (h : F.fn 68) (hro : F.round = none) (x : TNode) (pf : FuncId) (w : World) :
    CallsIn F n Tryz.prog 68 #[x.val, .func (.func pf) #[] #[]] w fun e w' =>
      e = .returned (.func (.func 75) #[] #[.pointer (some ⟨w.heap.size + 1, 0, none⟩), .pointer (some ⟨w.heap.size, 0, none⟩)]) ∧
      w' = (w.alloc (.cells #[.int .i64 x.k, .slice x.a x.len x.cap] 27)).alloc (.cells #[.func (.func pf) #[] #[]] 72) := by
  refine callsIn_of_wp Tryz.func68 rfl h ?_ hro
  simp only [Tryz.ntmps68, List.size_toArray, List.length_cons, List.length_nil, Nat.reduceAdd, Nat.reduceSub, Array.replicate_succ, Array.replicate_zero, List.push_toArray, List.append_toArray, List.nil_append, List.cons_append]
  gi_wp2
  go_ret
  exact ⟨rfl, rfl⟩

theorem tnodes_stops (F : Fence) (hd : F.depth = none) (n : Nat) (h1 : F.fn 75) (hw : F.fn 76) (hp : F.fn 49) (hro : F.round = none) (bp br n₀ q : Nat) (T : YT) (G : Int × TNode → Prop) (hG : ∀ y ∈ T.preW 1, G y) (w : World)
    (hqp : bp ≠ q) (hq : q < w.heap.size) (hn₀ : n₀ ≤ w.heap.size) (cp : w.cell? ⟨bp, 0, none⟩ = some (.func (.func 49) #[] #[]))
    (r0 : w.cell? ⟨br, 0, none⟩ = some (.int .i64 T.node.k)) (r1 : w.cell? ⟨br, 1, none⟩ = some (.slice T.node.a T.node.len T.node.cap))
    (hT : IsY n₀ w T) :
    SeqStopsK F n Tryz.prog 75 #[.pointer (some ⟨bp, 0, none⟩), .pointer (some ⟨br, 0, none⟩)] (fun x : {x : Int × TNode // G x} => #[Value.int .i64 x.1.1, x.1.2.val]) (Kc n₀ q) (fun ys => ys.map Subtype.val = T.preW 1) (fun pre => pre.map Subtype.val <+: T.preW 1) (T.preW 1).length w := by
  intro l J Jx W hW hJ _ hY h0
  refine (tnodes1_in F hd n h1 hw hp hro l bp br n₀ q T G hG (fun s W => ∃ s' : List {x : Int × TNode // G x}, s'.map Subtype.val = s ∧ J s' W) (fun s W => ∃ s' : List {x : Int × TNode // G x}, s'.map Subtype.val = s ∧ Jx s' W) hqp (fun s A B hs hb => ?_) ?_ W (Nat.le_trans hn₀ hW.size) (Nat.lt_of_lt_of_le hq hW.size) ((hW.cell (p := ⟨bp, 0, none⟩) (cell_lt cp)).trans cp)
    ((hW.cell (p := ⟨br, 0, none⟩) (cell_lt r0)).trans r0) ((hW.cell (p := ⟨br, 1, none⟩) (cell_lt r0)).trans r1) (hT.bel (hW.mono hn₀)) ⟨[], rfl, h0⟩).mono ?_
  · obtain ⟨s', hs', hj⟩ := hs
    exact ⟨s', hs', AbidesFrom.below hJ hj hb⟩
  · rintro pre x W1 hg ⟨s', rfl, hj⟩ hlt
    obtain ⟨fn, tmps, assign, body, hy, hR⟩ := hY s' ⟨x, hg⟩ W1 hj (by simpa using hlt)
    refine ⟨fn, tmps, assign, body, hy, hR.mono ?_⟩
    rintro e W' (⟨he, hj', hk⟩ | ⟨he, hj'⟩)
    · exact .inl ⟨he, ⟨s' ++ [⟨x, hg⟩], by simp, hj'⟩, hk⟩
    · exact .inr ⟨he, ⟨s' ++ [⟨x, hg⟩], by simp, hj'⟩⟩
  · rintro e W' ⟨hv, h⟩
    refine ⟨hv, ?_⟩
    rcases h with ⟨ys, h1, s', h2, h3⟩ | ⟨pre, h1, s', h2, h3⟩
    · exact .inl ⟨s', h2.trans h1, h3⟩
    · exact .inr ⟨s', by show List.map _ s' <+: _; rw [h2]; exact h1, h3⟩

/-- Is a type valid, as far as its parts do not matter? -/
def tokNode (k : Int) (len : Nat) : Bool :=
  if k = 0 then decide (len = 0) else if k = 1 then decide (len = 0) else if k = 2 then decide (len ≤ 8) else if k = 3 then decide (1 ≤ len) && decide (len ≤ 8) else false
set_option maxRecDepth 100000 in
set_option maxHeartbeats 1000000 in
theorem rightNode_any (k : Int) (a : Option Addr) (len cap : Nat) (w : World) (hl : len ≤ maxLen) :
    Calls Tryz.prog 50 #[.agg #[.int .i64 k, .slice a len cap]] w fun e w' => e = .returned (.bool (tokNode k len)) ∧ Below w.heap.size w w' := by
  unfold maxLen at hl
  by_cases hk0 : k = 0
  · subst hk0
    by_cases h1 : len = 0
    all_goals
      go_enter Tryz.func50, Tryz.ntmps50
      go_wp2
      all_goals (go_ret; refine ⟨ret_bool ?_, (Below.refl _ _).alloc (Nat.le_refl _) _⟩; simp [tokNode, h1]; try omega)
  by_cases hk1 : k = 1
  · subst hk1
    by_cases h1 : len = 0
    all_goals
      go_enter Tryz.func50, Tryz.ntmps50
      go_wp2
      all_goals (go_ret; refine ⟨ret_bool ?_, (Below.refl _ _).alloc (Nat.le_refl _) _⟩; simp [tokNode, h1]; try omega)
  by_cases hk2 : k = 2
  · subst hk2
    by_cases h1 : len ≤ 8
    all_goals
      go_enter Tryz.func50, Tryz.ntmps50
      go_wp2
      all_goals (go_ret; refine ⟨ret_bool ?_, (Below.refl _ _).alloc (Nat.le_refl _) _⟩; simp [tokNode, h1]; try omega)
  by_cases hk3 : k = 3
  · subst hk3
    by_cases h0 : 1 ≤ len
    · by_cases h1 : len ≤ 8
      all_goals
        go_enter Tryz.func50, Tryz.ntmps50
        go_wp2
        all_goals (go_ret; refine ⟨ret_bool ?_, (Below.refl _ _).alloc (Nat.le_refl _) _⟩; simp [tokNode, h0, h1]; try omega)
    · go_enter Tryz.func50, Tryz.ntmps50
      go_wp2
      all_goals (go_ret; refine ⟨ret_bool ?_, (Below.refl _ _).alloc (Nat.le_refl _) _⟩; simp [tokNode, h0]; try omega)
  · go_enter Tryz.func50, Tryz.ntmps50
    go_wp2
    all_goals (go_ret; refine ⟨ret_bool ?_, (Below.refl _ _).alloc (Nat.le_refl _) _⟩; simp [tokNode, hk0, hk1, hk2, hk3]; try omega)
/-- A node of a type that is valid, as deep as it is. -/
def tokAt (x : Int × TNode) : Bool := decide (x.1 ≤ 6) && tokNode x.2.k x.2.len
/-- Nodes that are valid, and not too many. -/
def tokP (l : List (Int × TNode)) : Prop := l.length ≤ 40 ∧ l.all tokAt = true
instance (l : List (Int × TNode)) : Decidable (tokP l) := inferInstanceAs (Decidable (_ ∧ _))
/-- How many types there are; 0 if it is not valid. -/
def tsizeF (T : YT) : Int := if tokP (T.pre 1) then (T.pre 1).length else 0
theorem tokP_nil : tokP [] := ⟨by simp, rfl⟩
theorem tokP.snoc {l : List (Int × TNode)} {x : Int × TNode} (h : tokP l) (hl : l.length ≠ 40) (hx : tokAt x = true) : tokP (l ++ [x]) := ⟨by have := h.1; simp; omega, by rw [List.all_append, h.2]; simp [hx]⟩
theorem tokP.last {l : List (Int × TNode)} {x : Int × TNode} (h : tokP (l ++ [x])) : tokAt x = true := by have := h.2; rw [List.all_append] at this; simp at this; exact this.2
theorem tokP.len {l : List (Int × TNode)} {x : Int × TNode} (h : tokP (l ++ [x])) : l.length ≠ 40 := by have := h.1; simp at this; omega
theorem tokP.pre {l m : List (Int × TNode)} (hp : l <+: m) (h : tokP m) : tokP l := by
  obtain ⟨r, rfl⟩ := hp
  have h1 := h.1
  have h2 := h.2
  rw [List.all_append, Bool.and_eq_true] at h2
  exact ⟨by simp at h1; omega, h2.1⟩
theorem tokP_preW (T : YT) : (tokP (T.preW 1) ↔ tokP (T.pre 1)) ∧ (tokP (T.pre 1) → T.preW 1 = T.pre 1) := by
  by_cases h : T.ht ≤ 100
  · rw [YT.preW_eq T 1 (by omega) (by omega)]; exact ⟨Iff.rfl, fun _ => rfl⟩
  · obtain ⟨⟨x, hx, e⟩, ⟨y, hy, e'⟩⟩ := YT.at_depth 6 T 1 (by omega) (by omega) (by omega)
    have h1 : ¬ tokP (T.preW 1) := fun hp => by have := List.all_eq_true.1 hp.2 x hx; simp [tokAt, e] at this
    have h2 : ¬ tokP (T.pre 1) := fun hp => by have := List.all_eq_true.1 hp.2 y hy; simp [tokAt, e'] at this
    exact ⟨⟨fun h => absurd h h1, fun h => absurd h h2⟩, fun h => absurd h h2⟩
theorem tsizeF_W (T : YT) : tsizeF T = if tokP (T.preW 1) then ((T.preW 1).length : Int) else 0 := by
  unfold tsizeF
  by_cases h : tokP (T.pre 1)
  · rw [if_pos h, if_pos ((tokP_preW T).1.2 h), (tokP_preW T).2 h]
  · rw [if_neg h, if_neg (fun h' => h ((tokP_preW T).1.1 h'))]
/-- What is true of all nodes, at whatever depth. -/
theorem YT.preW_of {p : TNode → Prop} : ∀ (sz : Nat) (T : YT), T.ht ≤ sz → ∀ (d d' : Int), (∀ x ∈ T.pre d', p x.2) → ∀ x ∈ T.preW d, p x.2
  | 0, .mk x l, h, _, _, _ => by simp [YT.ht] at h
  | sz + 1, .mk y l, h, d, d', hp => by
    intro x hx
    simp only [YT.preW, List.mem_cons] at hx
    rcases hx with rfl | hx
    · exact hp (d', y) (by simp [YT.pre])
    · simp only [YT.ht] at h
      have key : ∀ (m : List YT), (∀ c ∈ m, c ∈ l) → x ∈ YT.preWL (wrap64 (d + 1)) m → p x.2 := by
        intro m
        induction m with
        | nil => intro _ h; simp [YT.preWL] at h
        | cons t m ih =>
          intro hsub hm
          simp only [YT.preWL, List.mem_append] at hm
          rcases hm with hm | hm
          · have ht := hsub t (by simp)
            refine YT.preW_of sz t (by have := YT.ht_mem ht; omega) (wrap64 (d + 1)) (d' + 1) (fun z hz => hp z ?_) x hm
            simp only [YT.pre]
            exact List.mem_cons_of_mem _ (YT.preL_kid ht hz)
          · exact ih (fun c hc => hsub c (by simp [hc])) hm
      exact key l (fun c h => h) hx
set_option maxRecDepth 100000 in
set_option maxHeartbeats 4000000 in
theorem tmeasure_any (T : YT) (w : World) (hT : IsY w.heap.size w T) (hS : ∀ x ∈ T.pre 1, x.2.len ≤ maxLen) :
    Calls Tryz.prog 48 #[T.node.val, .func (.func 49) #[] #[], .func (.func 50) #[] #[], .int .i64 40, .int .i64 6] w fun e w' =>
      e = .returned (.int .i64 (tsizeF T)) ∧ Below w.heap.size w w' := by
  have hS := YT.preW_of (p := fun y => y.len ≤ maxLen) T.ht T (Nat.le_refl _) 1 1 hS
  refine (callsIn_wide (n := 9)).1 ?_
  have hro : Fence.wide.round = none := rfl
  have hd : Fence.wide.depth = none := rfl
  refine callsIn_of_wp_marks Tryz.func48 rfl trivial ?_ hro
  obtain ⟨⟨xk, xa, xl, xc⟩, kids⟩ := T
  simp only [Tryz.ntmps48, List.size_toArray, List.length_cons, List.length_nil, Nat.reduceAdd, Nat.reduceSub, Array.replicate_succ, Array.replicate_zero, List.push_toArray, List.append_toArray, List.nil_append, List.cons_append, YT.node]
  gi_wp2
  refine wpIn_scope ?_
  gi_wp2
  refine wpIn_label ?_
  gi_wp2_with ((try refine ⟨trivial, ?_⟩); gi_at_call 68; refine (tnodes_in _ _ trivial hro ⟨xk, xa, xl, xc⟩ _ _).mono ?_; rintro e w' ⟨rfl, rfl⟩)
  obtain ⟨W0, hW0⟩ : ∃ W0, ((((((w.alloc (.cells #[.int .i64 xk, .slice xa xl xc] 27)).alloc (.cells #[.func (.func 50) #[] #[]] 48)).alloc (.cells #[.int .i64 40] 3)).alloc (.cells #[.int .i64 6] 3)).alloc (.cells #[.int .i64 0] 3)).alloc (.cells #[.int .i64 xk, .slice xa xl xc] 27)).alloc (.cells #[.func (.func 49) #[] #[]] 72) = W0 := ⟨_, rfl⟩
  obtain ⟨hsz, hB0, bR0, bM0, bD0, bC0, hroot, bP⟩ := laid7 _ _ _ _ _ _ _ _ _ _ _ W0 hW0
  rw [hW0]
  clear hW0
  refine wpIn_rangeFunc_ownH hro (by omega) (gf := 75) (lb := #[.pointer (some ⟨w.heap.size + 6, 0, none⟩), .pointer (some ⟨w.heap.size + 5, 0, none⟩)]) rfl trivial (enters_of Tryz.func75 (by kernel_rfl) rfl)
    (tnodes_stops Fence.wide hd _ trivial trivial trivial hro (w.heap.size + 6) (w.heap.size + 5) w.heap.size (w.heap.size + 4) (.mk ⟨xk, xa, xl, xc⟩ kids) (fun x => x.2.len ≤ maxLen) hS W0 (by omega) (by omega) (by omega) bP.cell
      ((hroot 0).trans rfl) ((hroot 1).trans rfl) (hT.bel hB0)) Kc.trans (Kc.b (by omega)) (Below.refl _ _) (fun _ => rfl)
    (fun pre W => (((Boxed W (w.heap.size + 4) 3 (.int .i64 pre.length) ∧ Boxed W (w.heap.size + 3) 3 (.int .i64 6)) ∧ (Boxed W (w.heap.size + 2) 3 (.int .i64 40) ∧ Boxed W (w.heap.size + 1) 48 (.func (.func 50) #[] #[]))) ∧ tokP (pre.map Subtype.val)) ∧ Below w.heap.size w W)
    (fun c pre W => ((c = .exit 0 ∧ ¬ tokP (pre.map Subtype.val)) ∧ Boxed W (w.heap.size + 4) 3 (.int .i64 0)) ∧ Below w.heap.size w W)
    (OwnFrom.and (OwnFrom.and (OwnFrom.and (OwnFrom.and (Own.from (boxed_own _ _ _) _) (Own.from (boxed_own _ _ _) _)) (OwnFrom.and (Own.from (boxed_own _ _ _) _) (Own.from (boxed_own _ _ _) _))) (ownFrom_pure _ _)) (ownFrom_below (Nat.le_refl _) (by omega)))
    (fun c => OwnFrom.and (OwnFrom.and (ownFrom_pure _ _) (Own.from (boxed_own _ _ _) _)) (ownFrom_below (Nat.le_refl _) (by omega)))
    ⟨⟨⟨⟨bC0, bD0⟩, bM0, bR0⟩, tokP_nil⟩, hB0⟩
    (fun x a' W => ∃ Bx, w.heap.size + 5 ≤ Bx ∧ (W.cell? ⟨Bx, 0, none⟩ = some (.int .i64 x.1.2.k) ∧ W.cell? ⟨Bx, 1, none⟩ = some (.slice x.1.2.a x.1.2.len x.1.2.cap)) ∧
      a' = { tmps := #[.agg #[.int .i64 xk, .slice xa xl xc], .func (.func 49) #[] #[], .func (.func 50) #[] #[], .int .i64 40, .int .i64 6, .pointer (some ⟨w.heap.size, 0, none⟩), undef, .pointer (some ⟨w.heap.size + 1, 0, none⟩), .pointer (some ⟨w.heap.size + 2, 0, none⟩), .pointer (some ⟨w.heap.size + 3, 0, none⟩), .int .i64 0, .pointer (some ⟨w.heap.size + 4, 0, none⟩), .int .i64 x.1.1, .pointer (some ⟨Bx, 0, none⟩),
        .agg #[.int .i64 xk, .slice xa xl xc], .func (.func 49) #[] #[], .func (.func 75) #[] #[.pointer (some ⟨w.heap.size + 6, 0, none⟩), .pointer (some ⟨w.heap.size + 5, 0, none⟩)], .int .i64 x.1.1, x.1.2.val, undef, undef, undef, undef, undef, undef, undef, undef, undef, undef, undef, undef, undef, undef], defers := [] })
    (fun x a' _ X Y row hs hg hr => by
      obtain ⟨Bx, h1, ⟨h2, h3⟩, h6⟩ := hs
      have hr' := fun r e => (hr r e).2
      exact ⟨Bx, h1, ⟨cell_kept h2 hg hr', cell_kept h3 hg hr'⟩, h6⟩)
    ?assign ?body ?done ?stop
  case assign =>
    rintro l pre x W K ⟨⟨⟨⟨bC, bD⟩, bM, bR⟩, hp⟩, hB⟩ hK
    obtain ⟨⟨xd, ⟨yk, ya, yl, yc⟩⟩, hx⟩ := x
    gi_wp2
    exact hK _ _ ((KeepsOthers.alloc _ _).from _) (Kc.of_below ((Below.refl _ W).alloc (Nat.le_refl _) _) hB.size) ⟨⟨⟨⟨bC.alloc _, bD.alloc _⟩, bM.alloc _, bR.alloc _⟩, hp⟩, hB.alloc hB.size _⟩ ⟨W.heap.size, bC.lt, ⟨by simp [go_sem], by simp [go_sem]⟩, rfl⟩
  case body =>
    rintro l pre x a' W hl ⟨r, hr⟩ ⟨⟨⟨⟨bC, bD⟩, bM, bR⟩, hp⟩, hB⟩ ⟨Bx, hBx, ⟨n0, n1⟩, rfl⟩ hlt
    obtain ⟨⟨xd, ⟨yk, ya, yl, yc⟩⟩, hx⟩ := x
    simp only at n0 n1
    have cC := bC.cell
    have fC := bC.frozen
    have cD := bD.cell
    have cM := bM.cell
    have cR := bR.cell
    by_cases h6 : 6 < xd
    · gi_wp2
      exact bad_leave bC (KeepsFrom.refl _ _) hB (by omega) (fun h => by rw [List.map_append] at h; have := tokP.last h; simp [tokAt] at this; omega)
    · by_cases h60 : pre.length = 40
      · gi_wp2
        exact bad_leave bC (KeepsFrom.refl _ _) hB (by omega) (fun h => by rw [List.map_append] at h; have := tokP.len h; simp at this; omega)
      · obtain ⟨b, hb⟩ : ∃ b, tokNode yk yl = b := ⟨_, rfl⟩
        have hcall : ∀ m, CallsIn (Fence.wide.inRound l) m Tryz.prog 50 #[.agg #[.int .i64 yk, .slice ya yl yc]] W fun e W' =>
            e = .returned (.bool b) ∧ Below W.heap.size W W' ∧ Boxed W' (w.heap.size + 4) 3 (.int .i64 pre.length) ∧ W'.cell? ⟨w.heap.size + 4, 0, none⟩ = some (.int .i64 pre.length) ∧ W'.frozen? ⟨w.heap.size + 4, 0, none⟩ = false := fun m =>
          (CallsIn.inRound l ((callsIn_wide (n := m)).2 (rightNode_any yk ya yl yc W hx))).mono fun e W' h => by
            obtain ⟨rfl, h2⟩ := h
            have b' := Boxed.of_below bC h2
            exact ⟨by rw [hb], h2, b', b'.cell, b'.frozen⟩
        have HO := Lib.hid hb
        clear hb
        have hl60 := hp.1
        rw [List.length_map] at hl60
        cases b with
        | false =>
          gi_wp2_with ((try refine ⟨trivial, ?_⟩); gi_at_call 50; refine (hcall _).mono ?_; clear hcall; rintro e W' ⟨rfl, hbW, bC', cC', fC'⟩)
          exact bad_leave bC' (KeepsFrom.of_below hbW) (hB.trans (hbW.mono hB.size)) (by omega) (fun h => by rw [List.map_append] at h; have := tokP.last h; simp only [tokAt, HO.out, Bool.and_false] at this; cases this)
        | true =>
          gi_wp2_with ((try refine ⟨trivial, ?_⟩); gi_at_call 50; refine (hcall _).mono ?_; clear hcall; rintro e W' ⟨rfl, hbW, bC', cC', fC'⟩)
          refine ⟨(KeepsFrom.of_below hbW).trans ((KeepsOthers.setCell _ _ _).from _), (Kc.of_below hbW hB.size).trans (Kc.setq (by omega) _ _), ⟨⟨⟨?_, ?_⟩, ?_, ?_⟩, ?_⟩, ?_⟩
          · rw [List.length_append]; exact bC'.set _
          · exact (Boxed.of_below bD hbW).other (by omega) _
          · exact (Boxed.of_below bM hbW).other (by omega) _
          · exact (Boxed.of_below bR hbW).other (by omega) _
          · rw [List.map_append]; exact hp.snoc (by rw [List.length_map]; exact h60) (by simp only [List.map_cons, List.map_nil, tokAt, HO.out, Bool.and_true]; exact decide_eq_true (by omega))
          · exact (hB.trans (hbW.mono hB.size)).setCell (p := ⟨w.heap.size + 4, 0, none⟩) (by simp) _
  case done =>
    rintro D zs W hD hzs ⟨⟨⟨⟨bC, bD⟩, bM, bR⟩, hp⟩, hB⟩ hK
    have cC := bC.cell
    gi_wp2
    refine ⟨by simp, .inl ⟨_, _, rfl, run_takeDeferred hK, ?_⟩⟩
    refine ⟨_, results_tmp rfl _ _ _, ?_, hB.trans (belowK_b (w := w) (Nat.le_refl _) W D _ _ (by omega) hK rfl rfl)⟩
    rw [hzs] at hp
    rw [tsizeF_W, if_pos hp, ← hzs, List.length_map]
    rfl
  case stop =>
    rintro D c pre W hD hpre ⟨⟨⟨rfl, hbad⟩, bC⟩, hB⟩ hK
    have cC := bC.cell
    gi_wp2
    refine ⟨by simp, .inl ⟨_, _, rfl, run_takeDeferred hK, ?_⟩⟩
    refine ⟨_, results_tmp rfl _ _ _, ?_, hB.trans (belowK_b (w := w) (Nat.le_refl _) W D _ _ (by omega) hK rfl rfl)⟩
    rw [tsizeF_W, if_neg (fun h => hbad (tokP.pre hpre h))]
    rfl
end Go.Proofs.YtofboalgbgipoaaGreatDoor
