/- Types and values as trees, over a set of blocks; what ValueOf makes is small, and valid. -/
import Derived.Test.YtlbnfokedkpccaaGreatOrde
import Derived.Laws.AppendOwn
set_option linter.all false
namespace Go.Proofs.YtlbnfokedkpccaaGreat
open Go.RowKit Go.Shelf
attribute [local go_sem] Oper.semAt_some

/-- A type with its parts. -/
inductive TT where
  | mk (k : Int) (a : Option Addr) (len cap : Nat) (l : List TT)
def TT.k : TT → Int | .mk k _ _ _ _ => k
def TT.a : TT → Option Addr | .mk _ a _ _ _ => a
def TT.len : TT → Nat | .mk _ _ n _ _ => n
def TT.cap : TT → Nat | .mk _ _ _ c _ => c
def TT.kids : TT → List TT | .mk _ _ _ _ l => l
def TT.row (T : TT) : Value := .slice T.a T.len T.cap
/-- The type lies in blocks of S. -/
inductive IsTT (S : Nat → Prop) (W : World) : TT → Prop
  | mk (k : Int) (a : Option Addr) (len cap : Nat) (l : List TT) (hlen : len = l.length) (hm : len ≤ 1000)
      (hc : ∀ (i : Nat) (c : TT), l[i]? = some c → ∃ b, a = some ⟨b, 0, none⟩ ∧ S b ∧ W.cell? ⟨b, i * 2, none⟩ = some (.int .i64 c.k) ∧ W.cell? ⟨b, i * 2 + 1, none⟩ = some c.row)
      (hk : ∀ c ∈ l, IsTT S W c) : IsTT S W (.mk k a len cap l)
theorem IsTT.kept {S S' : Nat → Prop} {A B : World} (hS : ∀ b, S b → S' b) (h : ∀ b, S b → b < A.heap.size → B.heap[b]? = A.heap[b]?) {T : TT} (ht : IsTT S A T) : IsTT S' B T := by
  induction ht with
  | mk k a len cap l hlen hm hc _ ih =>
    refine .mk k a len cap l hlen hm (fun i c hi => ?_) ih
    obtain ⟨b, ha, hb, h0, h1⟩ := hc i c hi
    have hh := h b hb (cell_lt h0)
    exact ⟨b, ha, hS b hb, (World.cell?_of_block (a := ⟨b, i * 2, none⟩) hh).trans h0, (World.cell?_of_block (a := ⟨b, i * 2 + 1, none⟩) hh).trans h1⟩
/-- A type that is valid, so many within one another. -/
inductive TT.ok : Nat → TT → Prop
  | int (d : Nat) (a : Option Addr) (cap : Nat) : TT.ok (d + 1) (.mk 0 a 0 cap [])
  | text (d : Nat) (a : Option Addr) (cap : Nat) : TT.ok (d + 1) (.mk 1 a 0 cap [])
  | tuple (d : Nat) (a : Option Addr) (len cap : Nat) (l : List TT) (h : l.length ≤ 3) (hk : ∀ c ∈ l, TT.ok d c) : TT.ok (d + 1) (.mk 2 a len cap l)
  | sum (d : Nat) (a : Option Addr) (len cap : Nat) (l : List TT) (h : 1 ≤ l.length) (h3 : l.length ≤ 3) (hk : ∀ c ∈ l, TT.ok d c) : TT.ok (d + 1) (.mk 3 a len cap l)
theorem ownBlock_ge {W : World} {B : Nat} {e : TypeId} {size n : Nat} {v : Value} {xs : List Value} (h : W.ownsRow B e size v n xs) : ∀ g, v.ownBlock = some g → B ≤ g := by
  intro g hg
  rcases h.2 with ⟨rfl, _⟩ | ⟨g', cap, cur, rfl, hb, _⟩
  · simp [Value.ownBlock] at hg
  · simp [Value.ownBlock] at hg; omega
theorem ownsRow_kept {W W' : World} {B : Nat} {e : TypeId} {size n : Nat} {v : Value} {xs : List Value} (h : W.ownsRow B e size v n xs) (hk : ∀ g, B ≤ g → g < W.heap.size → W'.heap[g]? = W.heap[g]?) : W'.ownsRow B e size v n xs := by
  refine ⟨h.1, ?_⟩
  rcases h.2 with h2 | ⟨g, cap, cur, rfl, hb, hh, h3⟩
  · exact .inl h2
  · exact .inr ⟨g, cap, cur, rfl, hb, (hk g hb (Array.getElem?_eq_some_iff.1 hh).1).trans hh, h3⟩
theorem isSlice {W : World} {B : Nat} {e : TypeId} {size n : Nat} {v : Value} {xs : List Value} (h : W.ownsRow B e size v n xs) : ∃ va vc, v = .slice va n vc := by
  rcases h.2 with ⟨rfl, rfl⟩ | ⟨g, cap, cur, rfl, _⟩
  · exact ⟨_, _, rfl⟩
  · exact ⟨_, _, rfl⟩
/-- The value lies in blocks of S. -/
inductive IsV (S : Nat → Prop) (W : World) : LT → Prop
  | mk (x : Node) (l : List LT) (hlen : x.len = l.length) (hs : x.s.size ≤ maxLen) (hm : x.len * 32 ≤ 140737488351232)
      (hc : ∀ (i : Nat) (c : LT), l[i]? = some c → ∃ b, x.a = some ⟨b, 0, none⟩ ∧ S b ∧ W.cell? ⟨b, i * 4, none⟩ = some (.int .i64 c.node.k) ∧ W.cell? ⟨b, i * 4 + 1, none⟩ = some (.int .i64 c.node.n) ∧
        W.cell? ⟨b, i * 4 + 2, none⟩ = some (.string c.node.s) ∧ W.cell? ⟨b, i * 4 + 3, none⟩ = some (.slice c.node.a c.node.len c.node.cap))
      (hk : ∀ c ∈ l, IsV S W c) : IsV S W (.mk x l)
theorem IsV.kept {S S' : Nat → Prop} {A B : World} (hS : ∀ b, S b → S' b) (h : ∀ b, S b → b < A.heap.size → B.heap[b]? = A.heap[b]?) {T : LT} (ht : IsV S A T) : IsV S' B T := by
  induction ht with
  | mk x l hlen hs hm hc _ ih =>
    refine .mk x l hlen hs hm (fun i c hi => ?_) ih
    obtain ⟨b, ha, hb, h0, h1, h2, h3⟩ := hc i c hi
    have hh := h b hb (cell_lt h0)
    exact ⟨b, ha, hS b hb, (World.cell?_of_block (a := ⟨b, i * 4, none⟩) hh).trans h0, (World.cell?_of_block (a := ⟨b, i * 4 + 1, none⟩) hh).trans h1, (World.cell?_of_block (a := ⟨b, i * 4 + 2, none⟩) hh).trans h2, (World.cell?_of_block (a := ⟨b, i * 4 + 3, none⟩) hh).trans h3⟩
theorem IsV.isT {S : Nat → Prop} {W : World} {n₀ : Nat} (hS : ∀ b, S b → b < n₀) {T : LT} (h : IsV S W T) : IsT n₀ W T := by
  induction h with
  | mk x l hlen hs hm hc _ ih =>
    refine .mk x l hlen hs hm (fun i c hi => ?_) ih
    obtain ⟨b, ha, hb, h0, h1, h2, h3⟩ := hc i c hi
    exact ⟨b, 0, ha, hS b hb, by simpa using h0, by simpa using h1, by simpa using h2, by simpa using h3⟩
theorem cellsV_snoc (l : List LT) (c : LT) : cellsV (l ++ [c]) = cellsV l ++ nodeCells c.node := by simp [cellsV]
theorem setSecond {W : World} {B : Nat} {t : TypeId} {x y v : Value} (h : W.heap[B]? = some (.cells #[x, y] t (0, 0))) : (W.setCell ⟨B, 1, none⟩ v).heap[B]? = some (.cells #[x, v] t (0, 0)) := by
  obtain ⟨hlt, hk⟩ := Array.getElem?_eq_some_iff.1 h
  show (W.heap.modify B _)[B]? = _
  rw [Array.getElem?_eq_getElem (by rw [Array.size_modify]; exact hlt), Array.getElem_modify_self, hk]
  rfl
theorem setFirst {W : World} {B : Nat} {t : TypeId} {x y v : Value} (h : W.heap[B]? = some (.cells #[x, y] t (0, 0))) : (W.setCell ⟨B, 0, none⟩ v).heap[B]? = some (.cells #[v, y] t (0, 0)) := by
  obtain ⟨hlt, hk⟩ := Array.getElem?_eq_some_iff.1 h
  show (W.heap.modify B _)[B]? = _
  rw [Array.getElem?_eq_getElem (by rw [Array.size_modify]; exact hlt), Array.getElem_modify_self, hk]
  rfl
theorem setAll4 {W : World} {B : Nat} {t : TypeId} {a b c d a' b' c' d' : Value} (h : W.heap[B]? = some (.cells #[a, b, c, d] t (0, 0))) :
    ((((W.setCell ⟨B, 0, none⟩ a').setCell ⟨B, 1, none⟩ b').setCell ⟨B, 2, none⟩ c').setCell ⟨B, 3, none⟩ d').heap[B]? = some (.cells #[a', b', c', d'] t (0, 0)) := by
  have one : ∀ {W : World} {x y : Array Value} {i : Nat} {v : Value}, W.heap[B]? = some (.cells x t (0, 0)) → x.setIfInBounds i v = y → (W.setCell ⟨B, i, none⟩ v).heap[B]? = some (.cells y t (0, 0)) := by
    intro W x y i v h e
    subst e
    obtain ⟨hlt, hk⟩ := Array.getElem?_eq_some_iff.1 h
    show (W.heap.modify B _)[B]? = _
    rw [Array.getElem?_eq_getElem (by rw [Array.size_modify]; exact hlt), Array.getElem_modify_self, hk]
    rfl
  exact one (one (one (one h rfl) rfl) rfl) rfl
theorem below4 {n₀ B : Nat} {w W : World} {a' b' c' d' : Value} (h : Below n₀ w W) (hB : n₀ ≤ B) : Below n₀ w ((((W.setCell ⟨B, 0, none⟩ a').setCell ⟨B, 1, none⟩ b').setCell ⟨B, 2, none⟩ c').setCell ⟨B, 3, none⟩ d') :=
  (((h.setCell (p := ⟨B, 0, none⟩) hB _).setCell (p := ⟨B, 1, none⟩) hB _).setCell (p := ⟨B, 2, none⟩) hB _).setCell (p := ⟨B, 3, none⟩) hB _
theorem heap4 {W : World} {B b : Nat} {a' b' c' d' : Value} (h : b ≠ B) : ((((W.setCell ⟨B, 0, none⟩ a').setCell ⟨B, 1, none⟩ b').setCell ⟨B, 2, none⟩ c').setCell ⟨B, 3, none⟩ d').heap[b]? = W.heap[b]? :=
  (Below.heap_setCell _ _ _ b h).trans ((Below.heap_setCell _ _ _ b h).trans ((Below.heap_setCell _ _ _ b h).trans (Below.heap_setCell _ _ _ b h)))
theorem size4 {W : World} {B : Nat} {a' b' c' d' : Value} : ((((W.setCell ⟨B, 0, none⟩ a').setCell ⟨B, 1, none⟩ b').setCell ⟨B, 2, none⟩ c').setCell ⟨B, 3, none⟩ d').heap.size = W.heap.size := by simp [World.setCell]
theorem heap2 {W : World} {B b : Nat} {a' b' : Value} (h : b ≠ B) : ((W.setCell ⟨B, 0, none⟩ a').setCell ⟨B, 1, none⟩ b').heap[b]? = W.heap[b]? :=
  (Below.heap_setCell _ _ _ b h).trans (Below.heap_setCell _ _ _ b h)
theorem size2 {W : World} {B : Nat} {a' b' : Value} : ((W.setCell ⟨B, 0, none⟩ a').setCell ⟨B, 1, none⟩ b').heap.size = W.heap.size := by simp [World.setCell]
theorem setAll2 {W : World} {B : Nat} {t : TypeId} {a b a' b' : Value} (h : W.heap[B]? = some (.cells #[a, b] t (0, 0))) :
    ((W.setCell ⟨B, 0, none⟩ a').setCell ⟨B, 1, none⟩ b').heap[B]? = some (.cells #[a', b'] t (0, 0)) := setSecond (setFirst h)
theorem below2 {n₀ B : Nat} {w W : World} {a' b' : Value} (h : Below n₀ w W) (hB : n₀ ≤ B) : Below n₀ w ((W.setCell ⟨B, 0, none⟩ a').setCell ⟨B, 1, none⟩ b') :=
  (h.setCell (p := ⟨B, 0, none⟩) hB _).setCell (p := ⟨B, 1, none⟩) hB _
/-- How many values a value has, at most, that is made of a type of so many types within one another. -/
def costM : Nat → Nat
  | 0 => 0
  | d + 1 => 1 + 3 * costM d
/-- A value that is valid, so many within one another, with no more than so many values. -/
def Fine (d : Nat) (V : LT) : Prop := OkV V ∧ V.ht ≤ d ∧ V.cnt ≤ costM d
theorem Fine.leaf (d : Nat) (x : Node) (hx : okNode x.k x.n x.s.data.toList x.len = true) (hs : x.s.size ≤ 100) (hl : x.len ≤ 8) : Fine (d + 1) (.mk x []) :=
  ⟨.mk _ _ hx hs hl (by simp), by simp [LT.ht, LT.htL], by simp [LT.cnt, LT.cntL, costM]⟩
theorem Fine.node (d : Nat) (x : Node) (l : List LT) (h3 : l.length ≤ 3) (hx : okNode x.k x.n x.s.data.toList x.len = true) (hs : x.s.size ≤ 100) (hl : x.len ≤ 8) (hk : ∀ c ∈ l, Fine d c) : Fine (d + 1) (.mk x l) := by
  refine ⟨.mk _ _ hx hs hl (fun c hc => (hk c hc).1), ?_, ?_⟩
  · have := LT.htL_le (l := l) (N := d) (fun c hc => (hk c hc).2.1)
    simp only [LT.ht]; omega
  · have h1 := LT.cntL_le (l := l) (N := costM d) (fun c hc => (hk c hc).2.2)
    have h2 : l.length * costM d ≤ 3 * costM d := Nat.mul_le_mul_right _ h3
    simp only [LT.cnt, costM]; omega
/-- A value of at most three within one another is valid. -/
theorem Fine.valid {d : Nat} (hd : d ≤ 3) {V : LT} (h : Fine d V) : validF V = true := by
  obtain ⟨h1, h2, h3⟩ := h
  have hc : costM d ≤ 13 := by
    rcases d with _ | _ | _ | _ | d
    · simp [costM]
    · simp [costM]
    · simp [costM]
    · simp [costM]
    · omega
  refine (okP_valid V).1 ⟨by rw [LT.pre_len]; omega, List.all_eq_true.2 (fun x hx => ?_)⟩
  obtain ⟨g1, _, _, _, g5⟩ := h1.nodes 1 x hx
  simp only [okAt, g1, Bool.and_true]
  exact decide_eq_true (by omega)
/-- What ValueOf answers. -/
def VofR (d : Nat) (a : Option Addr) (len cap : Nat) (w : World) (e : Ending) (w' : World) : Prop :=
  ∃ (V : LT) (at' : Nat), e = .returned (.tuple #[V.node.val, streamV a len cap at']) ∧ IsV (fun b => w.heap.size ≤ b ∧ b < w'.heap.size) w' V ∧ Fine d V ∧ Below w.heap.size w w'
theorem leafV {S : Nat → Prop} {W : World} (x : Node) (hl : x.len = 0) (hs : x.s.size ≤ 100) : IsV S W (.mk x []) :=
  .mk x [] (by simp [hl]) (by unfold maxLen; omega) (by omega) (fun i c h => by simp at h) (fun c h => by simp at h)
theorem texts5_ok : ∀ s ∈ texts5, s.size ≤ 100 ∧ okNode 1 0 s.data.toList 0 = true := by
  intro s hs
  simp only [texts5, List.mem_cons, List.not_mem_nil, or_false] at hs
  rcases hs with rfl | rfl | rfl | rfl | rfl <;> exact ⟨by decide, by decide⟩
theorem Vof_int (d : Nat) (n₀ : Nat) (ta : Option Addr) (tl tc : Nat) (a : Option Addr) (len cap : Nat) (l : List Int) (at_ : Nat) (w : World) (hl : IsInts n₀ w a len l) (hn : n₀ ≤ w.heap.size) :
    Calls Tryz.prog 50 #[.agg #[.int .i64 0, .slice ta tl tc], streamV a len cap at_] w (VofR (d + 1) a len cap w) :=
  (ValueOf_int n₀ ta tl tc a len cap l at_ w hl hn).mono fun e w' ⟨⟨n, at', h0, h1, he⟩, hb⟩ =>
    ⟨leaf n, at', he, leafV _ rfl (show (⟨#[]⟩ : ByteArray).size ≤ 100 by decide), Fine.leaf d _ (by simp [okNode]; omega) (show (⟨#[]⟩ : ByteArray).size ≤ 100 by decide) (by simp), hb⟩
theorem Vof_text (d : Nat) (n₀ : Nat) (ta : Option Addr) (tl tc : Nat) (a : Option Addr) (len cap : Nat) (l : List Int) (at_ : Nat) (w : World) (hl : IsInts n₀ w a len l) (hn : n₀ ≤ w.heap.size) :
    Calls Tryz.prog 50 #[.agg #[.int .i64 1, .slice ta tl tc], streamV a len cap at_] w (VofR (d + 1) a len cap w) :=
  (ValueOf_text n₀ ta tl tc a len cap l at_ w hl hn).mono fun e w' ⟨⟨s, at', hs, he⟩, hb⟩ =>
    ⟨.mk ⟨1, 0, s, none, 0, 0⟩ [], at', he, leafV _ rfl (texts5_ok s hs).1, Fine.leaf d _ (texts5_ok s hs).2 (texts5_ok s hs).1 (by simp), hb⟩
end Go.Proofs.YtlbnfokedkpccaaGreat
