/- How many values are in a value. -/
import Derived.Test.YtofboalgbgipoaaGreatDoorVald
import Derived.RecoverIn
import Derived.OrdersIn
import Derived.TacticsIn
set_option linter.all false
namespace Go.Proofs.YtofboalgbgipoaaGreatDoor
open Go.RowKit Go.Shelf
attribute [local go_sem] Oper.semAt_some

/-- A scope of which no jump leads back into it. -/
theorem wpIn_scope {F : Fence} {n : Nat} {P : Program} {a : Act} {w : World} {c : Code} {Q : Exit → Act → World → Prop} (h : c.wpIn F n P (fun | .goto _, _, _ => False | E, a, w => Q E a w) a w) : (Code.scope c).wpIn F n P Q a w := by
  intro b k cs hro hb hr
  have st : step P (lone (b.atR a (.code (.scope c) :: k)) cs w) = .next (lone (b.atR a (.code c :: .inScope c :: k)) cs w) := step_lone_go (by simp [stepG, stepG.exec, Frame.atR])
  have st2 : ∀ a w, step P (lone (b.atR a (.inScope c :: k)) cs w) = .next (lone (b.atR a k) cs w) := fun a w => step_lone_go (by simp [stepG, stepG.exec, Frame.atR])
  have h0 : (lone (b.atR a (.code (.scope c) :: k)) cs w).fenced P F := fenced_calm hb hr rfl
  obtain ⟨E, a₁, w₁, hq, harr⟩ := h b (.inScope c :: k) cs hro hb hr
  cases E with
  | normal => exact ⟨.normal, a₁, w₁, hq, .head h0 st (StepsIn.trans harr (.one (fenced_calm hb hr rfl) (st2 _ _)))⟩
  | exit id =>
    have hx : exitTo id (.inScope c :: k) = exitTo id k := by simp [exitTo]
    exact ⟨.exit id, a₁, w₁, hq, fun k' hk => .head h0 st (harr.1 k' (by rw [hx]; exact hk)),
        fun hr' hk => let ⟨k₁, h1, h2⟩ := harr.2 hr' (by rw [hx]; exact hk); ⟨k₁, h1, .head h0 st h2⟩⟩
  | goto l => exact hq.elim
  | ret => exact ⟨_, a₁, w₁, hq, .of_steps (.one h0 st) harr⟩
  | panic ch => exact ⟨_, a₁, w₁, hq, .of_steps (.one h0 st) harr⟩
  | outgrown => exact ⟨_, a₁, w₁, hq, .of_steps (.one h0 st) harr⟩


set_option maxHeartbeats 1000000 in
theorem nodes_in (F : Fence) (n : Nat) (h : F.fn 45) (hro : F.round = none) (x : Node) (pf : FuncId) (w : World) :
    CallsIn F n Tryz.prog 45 #[x.val, .func (.func pf) #[] #[]] w fun e w' =>
      e = .returned (.func (.func 64) #[] #[.pointer (some ⟨w.heap.size + 1, 0, none⟩), .pointer (some ⟨w.heap.size, 0, none⟩)]) ∧
      w' = (w.alloc (.cells #[.int .i64 x.k, .int .i64 x.n, .string x.s, .slice x.a x.len x.cap] 24)).alloc (.cells #[.func (.func pf) #[] #[]] 45) := by
  refine callsIn_of_wp Tryz.func45 rfl h ?_ hro
  simp only [Tryz.ntmps45, List.size_toArray, List.length_cons, List.length_nil, Nat.reduceAdd, Nat.reduceSub, Array.replicate_succ, Array.replicate_zero, List.push_toArray, List.append_toArray, List.nil_append, List.cons_append]
  gi_wp2
  go_ret
  exact ⟨rfl, rfl⟩

theorem nodes_stops (F : Fence) (hd : F.depth = none) (n : Nat) (h1 : F.fn 64) (hw : F.fn 65) (hp : F.fn 20) (hro : F.round = none) (bp br n₀ q : Nat) (T : LT) (G : Int × Node → Prop) (hG : ∀ y ∈ T.preW 1, G y) (w : World)
    (hqp : bp ≠ q) (hq : q < w.heap.size) (hn₀ : n₀ ≤ w.heap.size) (cp : w.cell? ⟨bp, 0, none⟩ = some (.func (.func 20) #[] #[]))
    (r0 : w.cell? ⟨br, 0, none⟩ = some (.int .i64 T.node.k)) (r1 : w.cell? ⟨br, 1, none⟩ = some (.int .i64 T.node.n)) (r2 : w.cell? ⟨br, 2, none⟩ = some (.string T.node.s)) (r3 : w.cell? ⟨br, 3, none⟩ = some (.slice T.node.a T.node.len T.node.cap))
    (hT : IsT n₀ w T) :
    SeqStopsK F n Tryz.prog 64 #[.pointer (some ⟨bp, 0, none⟩), .pointer (some ⟨br, 0, none⟩)] (fun x : {x : Int × Node // G x} => #[Value.int .i64 x.1.1, x.1.2.val]) (Kc n₀ q) (fun ys => ys.map Subtype.val = T.preW 1) (fun pre => pre.map Subtype.val <+: T.preW 1) (T.preW 1).length w := by
  intro l J Jx W hW hJ _ hY h0
  refine (nodes1_in F hd n h1 hw hp hro l bp br n₀ q T G hG (fun s W => ∃ s' : List {x : Int × Node // G x}, s'.map Subtype.val = s ∧ J s' W) (fun s W => ∃ s' : List {x : Int × Node // G x}, s'.map Subtype.val = s ∧ Jx s' W) hqp (fun s A B hs hb => ?_) ?_ W (Nat.le_trans hn₀ hW.size) (Nat.lt_of_lt_of_le hq hW.size) ((hW.cell (p := ⟨bp, 0, none⟩) (cell_lt cp)).trans cp)
    ((hW.cell (p := ⟨br, 0, none⟩) (cell_lt r0)).trans r0) ((hW.cell (p := ⟨br, 1, none⟩) (cell_lt r0)).trans r1) ((hW.cell (p := ⟨br, 2, none⟩) (cell_lt r0)).trans r2) ((hW.cell (p := ⟨br, 3, none⟩) (cell_lt r0)).trans r3) (hT.bel (hW.mono hn₀)) ⟨[], rfl, h0⟩).mono ?_
  · obtain ⟨s', hs', hj⟩ := hs
    exact ⟨s', hs', AbidesFrom.below hJ hj hb⟩
  · rintro pre x W1 hg ⟨s', rfl, hj⟩ hlt
    obtain ⟨fn, tmps, assign, body, hy, hR⟩ := hY s' ⟨x, hg⟩ W1 hj (by simpa using hlt)
    refine ⟨fn, tmps, assign, body, hy, hR.mono ?_⟩
    rintro e W' (⟨he, hj', hk⟩ | ⟨he, hj'⟩)
    · exact .inl ⟨he, ⟨s' ++ [⟨x, hg⟩], by simp, hj'⟩, hk⟩
    · exact .inr ⟨he, ⟨s' ++ [⟨x, hg⟩], by simp, hj'⟩⟩
  · rintro e W' ⟨hv, h⟩
    refine ⟨hv, ?_⟩
    rcases h with ⟨ys, h1, s', h2, h3⟩ | ⟨pre, h1, s', h2, h3⟩
    · exact .inl ⟨s', h2.trans h1, h3⟩
    · exact .inr ⟨s', by show List.map _ s' <+: _; rw [h2]; exact h1, h3⟩

theorem Kc.b {n₀ q : Nat} {w : World} (hn : n₀ ≤ w.heap.size) (W : World) (l : Nat) (o o' : Obj) (hl : w.heap.size ≤ l) (h : W.heap[l]? = some o) (hc : o.isCells = false) (hk : o.isWalk = false) : Kc n₀ q W (W.putObj l o') :=
  ⟨belowK_b hn W l o o' hl h hc hk, fun r c t f _ hr => by
    have hne : r ≠ l := by
      intro e
      subst e
      rw [h] at hr
      cases hr
      cases hc
    rw [World.putObj_heap_other hne]; exact hr⟩
theorem Kc.setq {n₀ q : Nat} (hq : n₀ ≤ q) (W : World) (v : Value) : Kc n₀ q W (W.setCell ⟨q, 0, none⟩ v) :=
  ⟨(Below.refl n₀ W).setCell (p := ⟨q, 0, none⟩) hq _, fun r c t f hr hc => by rw [(grownBy_setCell' W q v).block r (Array.getElem?_eq_some_iff.1 hc).1 (fun e => hr (by cases e; rfl))]; exact hc⟩
theorem KeepsFrom.of_below {B : Nat} {W W' : World} (h : Below W.heap.size W W') : KeepsFrom B W W' := KeepsFrom.of_grownBy (grown_of_below h) (fun j e => by cases e)

/-- A node of a value that is valid, as deep as it is. -/
def okAt (x : Int × Node) : Bool := decide (x.1 ≤ 6) && okNode x.2.k x.2.n x.2.s.data.toList x.2.len
/-- Nodes that are valid, and not too many. -/
def okP (l : List (Int × Node)) : Prop := l.length ≤ 60 ∧ l.all okAt = true
instance (l : List (Int × Node)) : Decidable (okP l) := inferInstanceAs (Decidable (_ ∧ _))
/-- How many values there are; 0 if it is not valid. -/
def sizeF (T : LT) : Int := if okP (T.pre 1) then (T.pre 1).length else 0
theorem okP_nil : okP [] := ⟨by simp, rfl⟩
theorem okP.snoc {l : List (Int × Node)} {x : Int × Node} (h : okP l) (hl : l.length ≠ 60) (hx : okAt x = true) : okP (l ++ [x]) := ⟨by have := h.1; simp; omega, by rw [List.all_append, h.2]; simp [hx]⟩
theorem okP.last {l : List (Int × Node)} {x : Int × Node} (h : okP (l ++ [x])) : okAt x = true := by have := h.2; rw [List.all_append] at this; simp at this; exact this.2
theorem okP.len {l : List (Int × Node)} {x : Int × Node} (h : okP (l ++ [x])) : l.length ≠ 60 := by have := h.1; simp at this; omega
theorem okP.pre {l m : List (Int × Node)} (hp : l <+: m) (h : okP m) : okP l := by
  obtain ⟨r, rfl⟩ := hp
  have h1 := h.1
  have h2 := h.2
  rw [List.all_append, Bool.and_eq_true] at h2
  exact ⟨by simp at h1; omega, h2.1⟩
theorem okP_preW (T : LT) : (okP (T.preW 1) ↔ okP (T.pre 1)) ∧ (okP (T.pre 1) → T.preW 1 = T.pre 1) := by
  by_cases h : T.ht ≤ 100
  · rw [LT.preW_eq T 1 (by omega) (by omega)]; exact ⟨Iff.rfl, fun _ => rfl⟩
  · obtain ⟨⟨x, hx, e⟩, ⟨y, hy, e'⟩⟩ := LT.at_depth 6 T 1 (by omega) (by omega) (by omega)
    have h1 : ¬ okP (T.preW 1) := fun hp => by have := List.all_eq_true.1 hp.2 x hx; simp [okAt, e] at this
    have h2 : ¬ okP (T.pre 1) := fun hp => by have := List.all_eq_true.1 hp.2 y hy; simp [okAt, e'] at this
    exact ⟨⟨fun h => absurd h h1, fun h => absurd h h2⟩, fun h => absurd h h2⟩
theorem sizeF_W (T : LT) : sizeF T = if okP (T.preW 1) then ((T.preW 1).length : Int) else 0 := by
  unfold sizeF
  by_cases h : okP (T.pre 1)
  · rw [if_pos h, if_pos ((okP_preW T).1.2 h), (okP_preW T).2 h]
  · rw [if_neg h, if_neg (fun h' => h ((okP_preW T).1.1 h'))]
/-- What is true of all nodes, at whatever depth. -/
theorem LT.preW_of {p : Node → Prop} : ∀ (sz : Nat) (T : LT), T.ht ≤ sz → ∀ (d d' : Int), (∀ x ∈ T.pre d', p x.2) → ∀ x ∈ T.preW d, p x.2
  | 0, .mk x l, h, _, _, _ => by simp [LT.ht] at h
  | sz + 1, .mk y l, h, d, d', hp => by
    intro x hx
    simp only [LT.preW, List.mem_cons] at hx
    rcases hx with rfl | hx
    · exact hp (d', y) (by simp [LT.pre])
    · simp only [LT.ht] at h
      have key : ∀ (m : List LT), (∀ c ∈ m, c ∈ l) → x ∈ LT.preWL (wrap64 (d + 1)) m → p x.2 := by
        intro m
        induction m with
        | nil => intro _ h; simp [LT.preWL] at h
        | cons t m ih =>
          intro hsub hm
          simp only [LT.preWL, List.mem_append] at hm
          rcases hm with hm | hm
          · have ht := hsub t (by simp)
            refine LT.preW_of sz t (by have := LT.ht_mem ht; omega) (wrap64 (d + 1)) (d' + 1) (fun z hz => hp z ?_) x hm
            simp only [LT.pre]
            exact List.mem_cons_of_mem _ (LT.preL_kid ht hz)
          · exact ih (fun c hc => hsub c (by simp [hc])) hm
      exact key l (fun c h => h) hx
theorem Boxed.of_below {W W' : World} {B : Nat} {t : TypeId} {v : Value} (h : Boxed W B t v) (hb : Below W.heap.size W W') : Boxed W' B t v := (hb.block B h.lt).trans h

theorem bad_leave {α : Type} {B c₀ n₀ : Nat} {t : TypeId} {p : List α → Prop} {Kp : World → World → Prop} {I : List α → World → Prop} {xs : List α} {W W' w : World} {a : Act} {v u : Value} (b : Boxed W' c₀ t v) (hk : KeepsFrom B W W') (hb : Below n₀ w W') (hn : n₀ ≤ c₀) (h : p xs) :
    ownPostG B Kp I (fun c pre W => ((c = .exit 0 ∧ p pre) ∧ Boxed W c₀ t u) ∧ Below n₀ w W) xs W (.exit 0) a (W'.setCell ⟨c₀, 0, none⟩ u) :=
  ⟨hk.trans ((KeepsOthers.setCell _ _ _).from _), ⟨⟨rfl, h⟩, b.set _⟩, hb.setCell (p := ⟨c₀, 0, none⟩) hn _⟩

/-- What lies where the loop begins. -/
theorem laid7 (w : World) (vs : Array Value) (t rt pt it : TypeId) (rf m d c pf : Value) :
    ∀ W0, ((((((w.alloc (.cells vs t)).alloc (.cells #[rf] rt)).alloc (.cells #[m] it)).alloc (.cells #[d] it)).alloc (.cells #[c] it)).alloc (.cells vs t)).alloc (.cells #[pf] pt) = W0 →
    W0.heap.size = w.heap.size + 7 ∧ Below w.heap.size w W0 ∧ Boxed W0 (w.heap.size + 1) rt rf ∧ Boxed W0 (w.heap.size + 2) it m ∧ Boxed W0 (w.heap.size + 3) it d ∧ Boxed W0 (w.heap.size + 4) it c ∧
      (∀ i : Nat, W0.cell? ⟨w.heap.size + 5, i, none⟩ = vs[i]?) ∧ Boxed W0 (w.heap.size + 6) pt pf := by
  rintro W0 rfl
  have s1 : (w.alloc (.cells vs t)).heap.size = w.heap.size + 1 := by simp
  have b1 := (((((Boxed.new (w.alloc (.cells vs t)) rt rf).alloc (.cells #[m] it)).alloc (.cells #[d] it)).alloc (.cells #[c] it)).alloc (.cells vs t)).alloc (.cells #[pf] pt)
  have b2 := ((((Boxed.new ((w.alloc (.cells vs t)).alloc (.cells #[rf] rt)) it m).alloc (.cells #[d] it)).alloc (.cells #[c] it)).alloc (.cells vs t)).alloc (.cells #[pf] pt)
  have b3 := (((Boxed.new (((w.alloc (.cells vs t)).alloc (.cells #[rf] rt)).alloc (.cells #[m] it)) it d).alloc (.cells #[c] it)).alloc (.cells vs t)).alloc (.cells #[pf] pt)
  have b4 := ((Boxed.new ((((w.alloc (.cells vs t)).alloc (.cells #[rf] rt)).alloc (.cells #[m] it)).alloc (.cells #[d] it)) it c).alloc (.cells vs t)).alloc (.cells #[pf] pt)
  have b6 := Boxed.new ((((((w.alloc (.cells vs t)).alloc (.cells #[rf] rt)).alloc (.cells #[m] it)).alloc (.cells #[d] it)).alloc (.cells #[c] it)).alloc (.cells vs t)) pt pf
  simp only [World.size_alloc, Nat.add_assoc, Nat.reduceAdd] at b1 b2 b3 b4 b6
  refine ⟨by simp, ((((((((Below.refl _ w).alloc (Nat.le_refl _) _).alloc (by simp) _).alloc (by simp; omega) _).alloc (by simp; omega) _).alloc (by simp; omega) _).alloc (by simp; omega) _).alloc (by simp; omega) _), b1, b2, b3, b4, fun i => ?_, b6⟩
  have h5 := World.alloc_heap_new (((((w.alloc (.cells vs t)).alloc (.cells #[rf] rt)).alloc (.cells #[m] it)).alloc (.cells #[d] it)).alloc (.cells #[c] it)) (.cells vs t)
  have h6 := (Below.heap_alloc ((((((w.alloc (.cells vs t)).alloc (.cells #[rf] rt)).alloc (.cells #[m] it)).alloc (.cells #[d] it)).alloc (.cells #[c] it)).alloc (.cells vs t)) (.cells #[pf] pt) _ (Array.getElem?_eq_some_iff.1 h5).1).trans h5
  simp only [World.size_alloc, Nat.add_assoc, Nat.reduceAdd] at h6
  unfold World.cell?
  simp only [h6]
  simp

set_option maxRecDepth 100000 in
set_option maxHeartbeats 4000000 in
theorem measure_any (T : LT) (w : World) (hT : IsT w.heap.size w T) (hS : ∀ x ∈ T.pre 1, x.2.s.size ≤ maxLen ∧ x.2.len ≤ maxLen) :
    Calls Tryz.prog 19 #[T.node.val, .func (.func 20) #[] #[], .func (.func 21) #[] #[], .int .i64 60, .int .i64 6] w fun e w' =>
      e = .returned (.int .i64 (sizeF T)) ∧ Below w.heap.size w w' := by
  have hS := LT.preW_of (p := fun y => y.s.size ≤ maxLen ∧ y.len ≤ maxLen) T.ht T (Nat.le_refl _) 1 1 hS
  refine (callsIn_wide (n := 9)).1 ?_
  have hro : Fence.wide.round = none := rfl
  have hd : Fence.wide.depth = none := rfl
  refine callsIn_of_wp_marks Tryz.func19 rfl trivial ?_ hro
  obtain ⟨⟨xk, xn, xs, xa, xl, xc⟩, kids⟩ := T
  simp only [Tryz.ntmps19, List.size_toArray, List.length_cons, List.length_nil, Nat.reduceAdd, Nat.reduceSub, Array.replicate_succ, Array.replicate_zero, List.push_toArray, List.append_toArray, List.nil_append, List.cons_append, LT.node]
  gi_wp2
  refine wpIn_scope ?_
  gi_wp2
  refine wpIn_label ?_
  gi_wp2_with ((try refine ⟨trivial, ?_⟩); gi_at_call 45; refine (nodes_in _ _ trivial hro ⟨xk, xn, xs, xa, xl, xc⟩ _ _).mono ?_; rintro e w' ⟨rfl, rfl⟩)
  obtain ⟨W0, hW0⟩ : ∃ W0, ((((((w.alloc (.cells #[.int .i64 xk, .int .i64 xn, .string xs, .slice xa xl xc] 24)).alloc (.cells #[.func (.func 21) #[] #[]] 46)).alloc (.cells #[.int .i64 60] 3)).alloc (.cells #[.int .i64 6] 3)).alloc (.cells #[.int .i64 0] 3)).alloc (.cells #[.int .i64 xk, .int .i64 xn, .string xs, .slice xa xl xc] 24)).alloc (.cells #[.func (.func 20) #[] #[]] 45) = W0 := ⟨_, rfl⟩
  obtain ⟨hsz, hB0, bR0, bM0, bD0, bC0, hroot, bP⟩ := laid7 _ _ _ _ _ _ _ _ _ _ _ W0 hW0
  rw [hW0]
  clear hW0
  refine wpIn_rangeFunc_ownH hro (by omega) (gf := 64) (lb := #[.pointer (some ⟨w.heap.size + 6, 0, none⟩), .pointer (some ⟨w.heap.size + 5, 0, none⟩)]) rfl trivial (enters_of Tryz.func64 (by kernel_rfl) rfl)
    (nodes_stops Fence.wide hd _ trivial trivial trivial hro (w.heap.size + 6) (w.heap.size + 5) w.heap.size (w.heap.size + 4) (.mk ⟨xk, xn, xs, xa, xl, xc⟩ kids) (fun x => x.2.s.size ≤ maxLen ∧ x.2.len ≤ maxLen) hS W0 (by omega) (by omega) (by omega) bP.cell
      ((hroot 0).trans rfl) ((hroot 1).trans rfl) ((hroot 2).trans rfl) ((hroot 3).trans rfl) (hT.bel hB0)) Kc.trans (Kc.b (by omega)) (Below.refl _ _) (fun _ => rfl)
    (fun pre W => (((Boxed W (w.heap.size + 4) 3 (.int .i64 pre.length) ∧ Boxed W (w.heap.size + 3) 3 (.int .i64 6)) ∧ (Boxed W (w.heap.size + 2) 3 (.int .i64 60) ∧ Boxed W (w.heap.size + 1) 46 (.func (.func 21) #[] #[]))) ∧ okP (pre.map Subtype.val)) ∧ Below w.heap.size w W)
    (fun c pre W => ((c = .exit 0 ∧ ¬ okP (pre.map Subtype.val)) ∧ Boxed W (w.heap.size + 4) 3 (.int .i64 0)) ∧ Below w.heap.size w W)
    (OwnFrom.and (OwnFrom.and (OwnFrom.and (OwnFrom.and (Own.from (boxed_own _ _ _) _) (Own.from (boxed_own _ _ _) _)) (OwnFrom.and (Own.from (boxed_own _ _ _) _) (Own.from (boxed_own _ _ _) _))) (ownFrom_pure _ _)) (ownFrom_below (Nat.le_refl _) (by omega)))
    (fun c => OwnFrom.and (OwnFrom.and (ownFrom_pure _ _) (Own.from (boxed_own _ _ _) _)) (ownFrom_below (Nat.le_refl _) (by omega)))
    ⟨⟨⟨⟨bC0, bD0⟩, bM0, bR0⟩, okP_nil⟩, hB0⟩
    (fun x a' W => ∃ Bx, w.heap.size + 5 ≤ Bx ∧ (W.cell? ⟨Bx, 0, none⟩ = some (.int .i64 x.1.2.k) ∧ W.cell? ⟨Bx, 1, none⟩ = some (.int .i64 x.1.2.n) ∧ W.cell? ⟨Bx, 2, none⟩ = some (.string x.1.2.s) ∧ W.cell? ⟨Bx, 3, none⟩ = some (.slice x.1.2.a x.1.2.len x.1.2.cap)) ∧
      a' = { tmps := #[.agg #[.int .i64 xk, .int .i64 xn, .string xs, .slice xa xl xc], .func (.func 20) #[] #[], .func (.func 21) #[] #[], .int .i64 60, .int .i64 6, .pointer (some ⟨w.heap.size, 0, none⟩), undef, .pointer (some ⟨w.heap.size + 1, 0, none⟩), .pointer (some ⟨w.heap.size + 2, 0, none⟩), .pointer (some ⟨w.heap.size + 3, 0, none⟩), .int .i64 0, .pointer (some ⟨w.heap.size + 4, 0, none⟩), .int .i64 x.1.1, .pointer (some ⟨Bx, 0, none⟩),
        .agg #[.int .i64 xk, .int .i64 xn, .string xs, .slice xa xl xc], .func (.func 20) #[] #[], .func (.func 64) #[] #[.pointer (some ⟨w.heap.size + 6, 0, none⟩), .pointer (some ⟨w.heap.size + 5, 0, none⟩)], .int .i64 x.1.1, x.1.2.val, undef, undef, undef, undef, undef, undef, undef, undef, undef, undef, undef, undef, undef, undef], defers := [] })
    (fun x a' _ X Y row hs hg hr => by
      obtain ⟨Bx, h1, ⟨h2, h3, h4, h5⟩, h6⟩ := hs
      have hr' := fun r e => (hr r e).2
      exact ⟨Bx, h1, ⟨cell_kept h2 hg hr', cell_kept h3 hg hr', cell_kept h4 hg hr', cell_kept h5 hg hr'⟩, h6⟩)
    ?assign ?body ?done ?stop
  case assign =>
    rintro l pre x W K ⟨⟨⟨⟨bC, bD⟩, bM, bR⟩, hp⟩, hB⟩ hK
    obtain ⟨⟨xd, ⟨yk, yn, ys, ya, yl, yc⟩⟩, hx⟩ := x
    gi_wp2
    exact hK _ _ ((KeepsOthers.alloc _ _).from _) (Kc.of_below ((Below.refl _ W).alloc (Nat.le_refl _) _) hB.size) ⟨⟨⟨⟨bC.alloc _, bD.alloc _⟩, bM.alloc _, bR.alloc _⟩, hp⟩, hB.alloc hB.size _⟩ ⟨W.heap.size, bC.lt, ⟨by simp [go_sem], by simp [go_sem], by simp [go_sem], by simp [go_sem]⟩, rfl⟩
  case body =>
    rintro l pre x a' W hl ⟨r, hr⟩ ⟨⟨⟨⟨bC, bD⟩, bM, bR⟩, hp⟩, hB⟩ ⟨Bx, hBx, ⟨n0, n1, n2, n3⟩, rfl⟩ hlt
    obtain ⟨⟨xd, ⟨yk, yn, ys, ya, yl, yc⟩⟩, hx⟩ := x
    simp only at n0 n1 n2 n3
    have cC := bC.cell
    have fC := bC.frozen
    have cD := bD.cell
    have cM := bM.cell
    have cR := bR.cell
    by_cases h6 : 6 < xd
    · gi_wp2
      exact bad_leave bC (KeepsFrom.refl _ _) hB (by omega) (fun h => by rw [List.map_append] at h; have := okP.last h; simp [okAt] at this; omega)
    · by_cases h60 : pre.length = 60
      · gi_wp2
        exact bad_leave bC (KeepsFrom.refl _ _) hB (by omega) (fun h => by rw [List.map_append] at h; have := okP.len h; simp at this; omega)
      · obtain ⟨b, hb⟩ : ∃ b, okNode yk yn ys.data.toList yl = b := ⟨_, rfl⟩
        have hcall : ∀ m, CallsIn (Fence.wide.inRound l) m Tryz.prog 21 #[.agg #[.int .i64 yk, .int .i64 yn, .string ys, .slice ya yl yc]] W fun e W' =>
            e = .returned (.bool b) ∧ Below W.heap.size W W' ∧ Boxed W' (w.heap.size + 4) 3 (.int .i64 pre.length) ∧ W'.cell? ⟨w.heap.size + 4, 0, none⟩ = some (.int .i64 pre.length) ∧ W'.frozen? ⟨w.heap.size + 4, 0, none⟩ = false := fun m =>
          (CallsIn.inRound l ((callsIn_wide (n := m)).2 (rightValue_any yk yn ys ya yl yc W hx.1 hx.2))).mono fun e W' h => by
            obtain ⟨rfl, h2⟩ := h
            have b' := Boxed.of_below bC h2
            exact ⟨by rw [hb], h2, b', b'.cell, b'.frozen⟩
        have HO := Lib.hid hb
        clear hb
        have hl60 := hp.1
        rw [List.length_map] at hl60
        cases b with
        | false =>
          gi_wp2_with ((try refine ⟨trivial, ?_⟩); gi_at_call 21; refine (hcall _).mono ?_; clear hcall; rintro e W' ⟨rfl, hbW, bC', cC', fC'⟩)
          exact bad_leave bC' (KeepsFrom.of_below hbW) (hB.trans (hbW.mono hB.size)) (by omega) (fun h => by rw [List.map_append] at h; have := okP.last h; simp only [okAt, HO.out, Bool.and_false] at this; cases this)
        | true =>
          gi_wp2_with ((try refine ⟨trivial, ?_⟩); gi_at_call 21; refine (hcall _).mono ?_; clear hcall; rintro e W' ⟨rfl, hbW, bC', cC', fC'⟩)
          refine ⟨(KeepsFrom.of_below hbW).trans ((KeepsOthers.setCell _ _ _).from _), (Kc.of_below hbW hB.size).trans (Kc.setq (by omega) _ _), ⟨⟨⟨?_, ?_⟩, ?_, ?_⟩, ?_⟩, ?_⟩
          · rw [List.length_append]; exact bC'.set _
          · exact (Boxed.of_below bD hbW).other (by omega) _
          · exact (Boxed.of_below bM hbW).other (by omega) _
          · exact (Boxed.of_below bR hbW).other (by omega) _
          · rw [List.map_append]; exact hp.snoc (by rw [List.length_map]; exact h60) (by simp only [List.map_cons, List.map_nil, okAt, HO.out, Bool.and_true]; exact decide_eq_true (by omega))
          · exact (hB.trans (hbW.mono hB.size)).setCell (p := ⟨w.heap.size + 4, 0, none⟩) (by simp) _
  case done =>
    rintro D zs W hD hzs ⟨⟨⟨⟨bC, bD⟩, bM, bR⟩, hp⟩, hB⟩ hK
    have cC := bC.cell
    gi_wp2
    refine ⟨by simp, .inl ⟨_, _, rfl, run_takeDeferred hK, ?_⟩⟩
    refine ⟨_, results_tmp rfl _ _ _, ?_, hB.trans (belowK_b (w := w) (Nat.le_refl _) W D _ _ (by omega) hK rfl rfl)⟩
    rw [hzs] at hp
    rw [sizeF_W, if_pos hp, ← hzs, List.length_map]
    rfl
  case stop =>
    rintro D c pre W hD hpre ⟨⟨⟨rfl, hbad⟩, bC⟩, hB⟩ hK
    have cC := bC.cell
    gi_wp2
    refine ⟨by simp, .inl ⟨_, _, rfl, run_takeDeferred hK, ?_⟩⟩
    refine ⟨_, results_tmp rfl _ _ _, ?_, hB.trans (belowK_b (w := w) (Nat.le_refl _) W D _ _ (by omega) hK rfl rfl)⟩
    rw [sizeF_W, if_neg (fun h => hbad (okP.pre hpre h))]
    rfl
end Go.Proofs.YtofboalgbgipoaaGreatDoor
