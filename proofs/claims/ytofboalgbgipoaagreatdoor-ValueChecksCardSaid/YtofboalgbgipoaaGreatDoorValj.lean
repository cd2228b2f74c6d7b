/- Values that numbers make. -/
import Derived.Test.YtofboalgbgipoaaGreatDoorVali
set_option linter.all false
namespace Go.Proofs.YtofboalgbgipoaaGreatDoor
open Go.RowKit Go.Shelf
attribute [local go_sem] Oper.semAt_some

mutual
def LT.cnt : LT → Nat
  | .mk _ l => LT.cntL l + 1
def LT.cntL : List LT → Nat
  | [] => 0
  | t :: l => LT.cnt t + LT.cntL l
end
mutual
theorem LT.pre_len : ∀ (T : LT) (d : Int), (LT.pre d T).length = T.cnt
  | .mk x l, d => by simp [LT.pre, LT.cnt, LT.preL_len l (d + 1)]
theorem LT.preL_len : ∀ (l : List LT) (d : Int), (LT.preL d l).length = LT.cntL l
  | [], d => by simp [LT.preL, LT.cntL]
  | t :: l, d => by simp [LT.preL, LT.cntL, LT.pre_len t d, LT.preL_len l d]
end
theorem LT.cntL_le {N : Nat} : ∀ {l : List LT}, (∀ c ∈ l, c.cnt ≤ N) → LT.cntL l ≤ l.length * N
  | [], _ => by simp [LT.cntL]
  | t :: l, h => by
    have h1 := h t (by simp)
    have h2 := LT.cntL_le (l := l) (fun c hc => h c (by simp [hc]))
    simp only [LT.cntL, List.length_cons, Nat.add_mul]
    omega
theorem LT.htL_le {N : Nat} : ∀ {l : List LT}, (∀ c ∈ l, c.ht ≤ N) → LT.htL l ≤ N
  | [], _ => by simp [LT.htL]
  | t :: l, h => by
    have h1 := h t (by simp)
    have h2 := LT.htL_le (l := l) (fun c hc => h c (by simp [hc]))
    simp only [LT.htL]
    omega
/-- All of a value's nodes are valid by themselves. -/
inductive OkV : LT → Prop
  | mk (x : Node) (l : List LT) (hx : okNode x.k x.n x.s.data.toList x.len = true) (hs : x.s.size ≤ 100) (hl : x.len ≤ 8) (hk : ∀ c ∈ l, OkV c) : OkV (.mk x l)
def costN : Nat → Nat
  | 0 => 1
  | d + 1 => 1 + 3 * costN d
theorem costN_pos (d : Nat) : 1 ≤ costN d := by cases d <;> simp [costN]
/-- How many values a value has, at most, that is made of a type of so many types within one another. -/
def costM : Nat → Nat
  | 0 => 0
  | d + 1 => 1 + 3 * costM d
/-- A value that is valid, so many within one another, with no more than so many values. -/
def Fine (d : Nat) (V : LT) : Prop := OkV V ∧ V.ht ≤ d ∧ V.cnt ≤ costM d
theorem Fine.leaf (d : Nat) (x : Node) (hx : okNode x.k x.n x.s.data.toList x.len = true) (hs : x.s.size ≤ 100) (hl : x.len ≤ 8) : Fine (d + 1) (.mk x []) :=
  ⟨.mk _ _ hx hs hl (by simp), by simp [LT.ht, LT.htL], by simp [LT.cnt, LT.cntL, costM]⟩
theorem Fine.node (d : Nat) (x : Node) (l : List LT) (h3 : l.length ≤ 3) (hx : okNode x.k x.n x.s.data.toList x.len = true) (hs : x.s.size ≤ 100) (hl : x.len ≤ 8) (hk : ∀ c ∈ l, Fine d c) : Fine (d + 1) (.mk x l) := by
  refine ⟨.mk _ _ hx hs hl (fun c hc => (hk c hc).1), ?_, ?_⟩
  · have := LT.htL_le (l := l) (N := d) (fun c hc => (hk c hc).2.1)
    simp only [LT.ht]; omega
  · have h1 := LT.cntL_le (l := l) (N := costM d) (fun c hc => (hk c hc).2.2)
    have h2 : l.length * costM d ≤ 3 * costM d := Nat.mul_le_mul_right _ h3
    simp only [LT.cnt, costM]; omega

/-- How deep the values of a value lie. -/
theorem OkV.nodes {V : LT} (h : OkV V) : ∀ (d : Int) (x : Int × Node), x ∈ LT.pre d V → okNode x.2.k x.2.n x.2.s.data.toList x.2.len = true ∧ x.2.s.size ≤ 100 ∧ x.2.len ≤ 8 ∧ d ≤ x.1 ∧ x.1 + 1 ≤ d + V.ht := by
  induction h with
  | mk y l hx hs hl hk ih =>
    intro d x hm
    simp only [LT.pre, List.mem_cons] at hm
    rcases hm with rfl | hm
    · exact ⟨hx, hs, hl, by omega, by simp only [LT.ht]; omega⟩
    · have : ∀ (m : List LT), (∀ c ∈ m, c ∈ l) → x ∈ LT.preL (d + 1) m → ∃ c ∈ l, x ∈ LT.pre (d + 1) c := by
        intro m
        induction m with
        | nil => intro _ h; simp [LT.preL] at h
        | cons t m ihm =>
          intro hsub h
          simp only [LT.preL, List.mem_append] at h
          rcases h with h | h
          · exact ⟨t, hsub t (by simp), h⟩
          · exact ihm (fun c hc => hsub c (by simp [hc])) h
      obtain ⟨c, hc, hxc⟩ := this l (fun c h => h) hm
      obtain ⟨h1, h2, h3, h4, h5⟩ := ih c hc (d + 1) x hxc
      have h6 := LT.ht_mem hc
      refine ⟨h1, h2, h3, by omega, ?_⟩
      simp only [LT.ht]
      omega
/-- Such a value is as large as it is, and valid. -/
theorem OkV.size {V : LT} (h : OkV V) (hh : V.ht ≤ 6) (hc : V.cnt ≤ 60) : sizeF V = V.cnt := by
  have : okP (V.pre 1) := by
    refine ⟨by rw [LT.pre_len]; exact hc, List.all_eq_true.2 (fun x hx => ?_)⟩
    obtain ⟨h1, _, _, _, h5⟩ := h.nodes 1 x hx
    simp only [okAt, h1, Bool.and_true]
    exact decide_eq_true (by omega)
  rw [sizeF, if_pos this, LT.pre_len]
mutual
theorem LT.deepest : ∀ (V : LT) (d : Int), ∃ x ∈ LT.pre d V, x.1 + 1 = d + V.ht
  | .mk y l, d => by
    by_cases h0 : l = []
    · subst h0
      exact ⟨(d, y), by simp [LT.pre], by simp [LT.ht, LT.htL]⟩
    · obtain ⟨x, hx, he⟩ := LT.deepestL l (d + 1) h0
      exact ⟨x, by simp only [LT.pre]; exact List.mem_cons_of_mem _ hx, by simp only [LT.ht]; omega⟩
theorem LT.deepestL : ∀ (l : List LT) (d : Int), l ≠ [] → ∃ x ∈ LT.preL d l, x.1 + 1 = d + LT.htL l
  | [], _, h => absurd rfl h
  | t :: l, d, _ => by
    obtain ⟨x, hx, he⟩ := LT.deepest t d
    by_cases h : LT.htL l ≤ t.ht
    · exact ⟨x, by rw [LT.preL]; exact List.mem_append_left _ hx, by rw [LT.htL]; omega⟩
    · by_cases h0 : l = []
      · subst h0; simp [LT.htL] at h
      · obtain ⟨x, hx, he⟩ := LT.deepestL l d h0
        exact ⟨x, by rw [LT.preL]; exact List.mem_append_right _ hx, by rw [LT.htL]; omega⟩
end
/-- What is too large or too deep is not valid. -/
theorem LT.size_bad {V : LT} (h : 6 < V.ht ∨ 60 < V.cnt) : sizeF V = 0 := by
  rw [sizeF, if_neg]
  intro hp
  rcases h with h | h
  · obtain ⟨x, hx, he⟩ := LT.deepest V 1
    have := List.all_eq_true.1 hp.2 x hx
    simp only [okAt, Bool.and_eq_true, decide_eq_true_eq] at this
    omega
  · have := hp.1
    rw [LT.pre_len] at this
    omega

theorem setAll4 {W : World} {B : Nat} {t : TypeId} {a b c d a' b' c' d' : Value} (h : W.heap[B]? = some (.cells #[a, b, c, d] t (0, 0))) :
    ((((W.setCell ⟨B, 0, none⟩ a').setCell ⟨B, 1, none⟩ b').setCell ⟨B, 2, none⟩ c').setCell ⟨B, 3, none⟩ d').heap[B]? = some (.cells #[a', b', c', d'] t (0, 0)) := by
  have one : ∀ {W : World} {x y : Array Value} {i : Nat} {v : Value}, W.heap[B]? = some (.cells x t (0, 0)) → x.setIfInBounds i v = y → (W.setCell ⟨B, i, none⟩ v).heap[B]? = some (.cells y t (0, 0)) := by
    intro W x y i v h e
    subst e
    obtain ⟨hlt, hk⟩ := Array.getElem?_eq_some_iff.1 h
    show (W.heap.modify B _)[B]? = _
    rw [Array.getElem?_eq_getElem (by rw [Array.size_modify]; exact hlt), Array.getElem_modify_self, hk]
    rfl
  exact one (one (one (one h rfl) rfl) rfl) rfl
theorem below4 {n₀ B : Nat} {w W : World} {a' b' c' d' : Value} (h : Below n₀ w W) (hB : n₀ ≤ B) : Below n₀ w ((((W.setCell ⟨B, 0, none⟩ a').setCell ⟨B, 1, none⟩ b').setCell ⟨B, 2, none⟩ c').setCell ⟨B, 3, none⟩ d') :=
  (((h.setCell (p := ⟨B, 0, none⟩) hB _).setCell (p := ⟨B, 1, none⟩) hB _).setCell (p := ⟨B, 2, none⟩) hB _).setCell (p := ⟨B, 3, none⟩) hB _

theorem cells4 {W : World} {B : Nat} {t : TypeId} {a b c d : Value} (h : W.heap[B]? = some (.cells #[a, b, c, d] t (0, 0))) :
    (W.cell? ⟨B, 0, none⟩ = some a ∧ W.cell? ⟨B, 1, none⟩ = some b ∧ W.cell? ⟨B, 2, none⟩ = some c ∧ W.cell? ⟨B, 3, none⟩ = some d) ∧ (W.frozen? ⟨B, 0, none⟩ = false ∧ W.frozen? ⟨B, 1, none⟩ = false ∧ W.frozen? ⟨B, 2, none⟩ = false ∧ W.frozen? ⟨B, 3, none⟩ = false) := by
  simp [World.cell?, World.frozen?, h]
/-- The value is of the type. -/
inductive OfT : LT → TT → Prop
  | int (x : Node) (l : List LT) (a : Option Addr) (len cap : Nat) (m : List TT) (hk : x.k = 0) : OfT (.mk x l) (.mk 0 a len cap m)
  | text (x : Node) (l : List LT) (a : Option Addr) (len cap : Nat) (m : List TT) (hk : x.k = 1) : OfT (.mk x l) (.mk 1 a len cap m)
  | tuple (x : Node) (l : List LT) (a : Option Addr) (len cap : Nat) (m : List TT) (hk : x.k = 2) (hl : l.length = m.length) (h : ∀ (i : Nat) (c : LT) (t : TT), l[i]? = some c → m[i]? = some t → OfT c t) : OfT (.mk x l) (.mk 2 a len cap m)
  | sum (x : Node) (v : LT) (a : Option Addr) (len cap : Nat) (m : List TT) (t : TT) (n : Nat) (hk : x.k = 3) (hn : x.n = n) (hm : m[n]? = some t) (h : OfT v t) : OfT (.mk x [v]) (.mk 3 a len cap m)
/-- A fine value of a type. -/
def FineT (d : Nat) (T : TT) (V : LT) : Prop := Fine d V ∧ OfT V T
/-- A value of a type: what `Made` gives back. -/
def MadeR (d : Nat) (T : TT) (at_ : Int) (w : World) (e : Ending) (w' : World) : Prop := ∃ (V : LT) (at' : Int), e = .returned (.tuple #[V.node.val, .int .i64 at']) ∧ at_ ≤ at' ∧ at' ≤ at_ + costN d ∧ IsV (fun b => w.heap.size ≤ b ∧ b < w'.heap.size) w' V ∧ FineT d T V ∧ Below w.heap.size w w'

set_option maxRecDepth 100000 in
set_option maxHeartbeats 1000000 in
theorem Made_int (n₀ : Nat) (a : Option Addr) (len cap : Nat) (l : List Int) (d : Nat) (ta : Option Addr) (tn tc : Nat) (at_ : Int) (w : World) (h0 : 0 ≤ at_) (h1 : at_ ≤ 1000000) (hl : IsInts n₀ w a len l) (hn : n₀ ≤ w.heap.size) :
    Calls Tryz.prog 43 #[.agg #[.int .i64 0, .slice ta tn tc], .slice a len cap, .int .i64 at_] w (MadeR (d + 1) (.mk 0 ta tn tc []) at_ w) := by
  obtain ⟨W2, hW2⟩ : ∃ W2, (w.alloc (.cells #[.int .i64 0, .slice ta tn tc] 27)).alloc (.cells #[.int .i64 0, .int .i64 0, .string ByteArray.empty, .slice none 0 0] 24) = W2 := ⟨_, rfl⟩
  have hb2 : Below w.heap.size w W2 := by rw [← hW2]; exact ((Below.refl _ _).alloc (Nat.le_refl _) _).alloc (by simp) _
  have hN := Nth_any n₀ a len cap l at_ W2 (hl.bel (hb2.mono hn))
  have hT := fun W => Turn_any (nthF l at_) 9 (by omega) (by omega) W
  have ht := turnF_lt (nthF l at_) (m := 9) (by omega)
  obtain ⟨t, htt⟩ : ∃ t, turnF (nthF l at_) 9 = t := ⟨_, rfl⟩
  rw [htt] at hT ht
  have res2 : W2.heap[w.heap.size + 1]? = some (.cells #[.int .i64 0, .int .i64 0, .string ByteArray.empty, .slice none 0 0] 24 (0, 0)) := by
    rw [← hW2]
    have := World.alloc_heap_new (w.alloc (.cells #[.int .i64 0, .slice ta tn tc] 27)) (.cells #[.int .i64 0, .int .i64 0, .string ByteArray.empty, .slice none 0 0] 24)
    rwa [World.size_alloc] at this
  have hI : Calls Tryz.prog 35 #[.int .i64 (t - 2)] W2 fun e W3 => e = .returned (.agg #[.int .i64 0, .int .i64 (t - 2), .string ByteArray.empty, .slice none 0 0]) ∧ Hid (Below W2.heap.size W2 W3) ∧
      ((W3.cell? ⟨w.heap.size + 1, 0, none⟩ = some (.int .i64 0) ∧ W3.cell? ⟨w.heap.size + 1, 1, none⟩ = some (.int .i64 0) ∧ W3.cell? ⟨w.heap.size + 1, 2, none⟩ = some (.string ByteArray.empty) ∧ W3.cell? ⟨w.heap.size + 1, 3, none⟩ = some (.slice none 0 0)) ∧
      (W3.frozen? ⟨w.heap.size + 1, 0, none⟩ = false ∧ W3.frozen? ⟨w.heap.size + 1, 1, none⟩ = false ∧ W3.frozen? ⟨w.heap.size + 1, 2, none⟩ = false ∧ W3.frozen? ⟨w.heap.size + 1, 3, none⟩ = false)) :=
    (Int_any (t - 2) W2).mono fun e W3 ⟨he, hb⟩ => ⟨he, Lib.hid hb, cells4 ((hb.block _ (Array.getElem?_eq_some_iff.1 res2).1).trans res2)⟩
  have HR := Lib.hid res2
  have HB := Lib.hid hb2
  rw [← hW2] at hN hI
  clear htt hl hb2 res2
  have HW := Lib.hid hW2
  clear hW2
  go_enter Tryz.func43, Tryz.ntmps43
  go_wp2_with (first | (go_at_call 60; refine hN.mono ?_; clear hN; rintro e w' ⟨rfl, rfl⟩) | (go_at_call 59; refine (hT _).mono ?_; clear hT; rintro e w' ⟨rfl, rfl⟩) | (go_at_call 35; refine hI.mono ?_; clear hI; rintro e W3 ⟨rfl, hb3, ⟨c0, c1, c2, c3⟩, f0, f1, f2, f3⟩))
  have hb3' := hb3.out
  rw [HW.out] at hb3'
  have hr4 := setAll4 (a' := .int .i64 0) (b' := .int .i64 (t - 2)) (c' := .string ByteArray.empty) (d' := .slice none 0 0) ((hb3'.block _ (Array.getElem?_eq_some_iff.1 HR.out).1).trans HR.out)
  have hcp := costN_pos (d + 1)
  refine ⟨rfl, .tuple #[Node.val ⟨0, t - 2, ByteArray.empty, none, 0, 0⟩, .int .i64 (at_ + 1)], ?_, .mk ⟨0, t - 2, ByteArray.empty, none, 0, 0⟩ [], at_ + 1, rfl, by omega, by omega,
    .mk _ _ rfl (by simp [maxLen]) (by simp) (fun i c hi => by simp at hi) (fun c hc => by simp at hc), ⟨Fine.leaf d _ ?_ (by simp) (by simp), .int _ _ _ _ _ _ rfl⟩, below4 (HB.out.trans (hb3'.mono HB.out.size)) (by omega)⟩
  · simp [results, Tryz.f43, go_sem, World.cell?, hr4, Node.val]
  · simp [okNode]; omega
theorem OkV.lens {V : LT} (h : OkV V) : ∀ x ∈ V.pre 1, x.2.s.size ≤ maxLen ∧ x.2.len ≤ maxLen := fun x hx => by
  obtain ⟨_, h2, h3, _⟩ := h.nodes 1 x hx
  unfold maxLen
  omega
theorem Size_ok (V : LT) (hO : OkV V) (hh : V.ht ≤ 100) (w : World) (hT : IsT w.heap.size w V) :
    Calls Tryz.prog 5 #[V.node.val] w fun e w' => e = .returned (.tuple #[.int .i64 (sizeF V), .int .i64 (if sizeF V = 0 then 1 else 0)]) ∧ Below w.heap.size w w' :=
  Size_any V (by omega) w hT hO.lens
theorem Check_ok (V : LT) (hO : OkV V) (hh : V.ht ≤ 100) (w : World) (hT : IsT w.heap.size w V) :
    Calls Tryz.prog 11 #[V.node.val] w fun e w' => e = .returned (.int .i64 (if sizeF V = 0 then 1 else 0)) ∧ Below w.heap.size w w' :=
  Check_any V (by omega) w hT hO.lens
theorem LT.cnt_pos (V : LT) : 1 ≤ V.cnt := by cases V; simp [LT.cnt]
end Go.Proofs.YtofboalgbgipoaaGreatDoor
