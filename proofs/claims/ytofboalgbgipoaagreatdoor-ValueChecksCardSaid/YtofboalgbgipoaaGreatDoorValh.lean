/- Types that numbers make. -/
import Derived.Test.YtofboalgbgipoaaGreatDoorValg
import Derived.WalkKit
import Derived.OwnWalk
import Derived.Laws.AppendOwn
import Derived.Maps.AppendAt
set_option linter.all false
namespace Go.Proofs.YtofboalgbgipoaaGreatDoor
open Go.RowKit Go.Shelf
attribute [local go_sem] Oper.semAt_some

/-- A type with its parts. -/
inductive TT where
  | mk (k : Int) (a : Option Addr) (len cap : Nat) (l : List TT)
def TT.k : TT → Int | .mk k _ _ _ _ => k
def TT.a : TT → Option Addr | .mk _ a _ _ _ => a
def TT.len : TT → Nat | .mk _ _ n _ _ => n
def TT.cap : TT → Nat | .mk _ _ _ c _ => c
def TT.kids : TT → List TT | .mk _ _ _ _ l => l
def TT.row (T : TT) : Value := .slice T.a T.len T.cap
/-- The type lies in blocks of S. -/
inductive IsTT (S : Nat → Prop) (W : World) : TT → Prop
  | mk (k : Int) (a : Option Addr) (len cap : Nat) (l : List TT) (hlen : len = l.length) (hm : len ≤ 1000)
      (hc : ∀ (i : Nat) (c : TT), l[i]? = some c → ∃ b, a = some ⟨b, 0, none⟩ ∧ S b ∧ W.cell? ⟨b, i * 2, none⟩ = some (.int .i64 c.k) ∧ W.cell? ⟨b, i * 2 + 1, none⟩ = some c.row)
      (hk : ∀ c ∈ l, IsTT S W c) : IsTT S W (.mk k a len cap l)
theorem IsTT.kept {S S' : Nat → Prop} {A B : World} (hS : ∀ b, S b → S' b) (h : ∀ b, S b → b < A.heap.size → B.heap[b]? = A.heap[b]?) {T : TT} (ht : IsTT S A T) : IsTT S' B T := by
  induction ht with
  | mk k a len cap l hlen hm hc _ ih =>
    refine .mk k a len cap l hlen hm (fun i c hi => ?_) ih
    obtain ⟨b, ha, hb, h0, h1⟩ := hc i c hi
    have hh := h b hb (cell_lt h0)
    exact ⟨b, ha, hS b hb, (World.cell?_of_block (a := ⟨b, i * 2, none⟩) hh).trans h0, (World.cell?_of_block (a := ⟨b, i * 2 + 1, none⟩) hh).trans h1⟩
/-- A type that is valid, so many within one another. -/
inductive TT.ok : Nat → TT → Prop
  | int (d : Nat) (a : Option Addr) (cap : Nat) : TT.ok (d + 1) (.mk 0 a 0 cap [])
  | text (d : Nat) (a : Option Addr) (cap : Nat) : TT.ok (d + 1) (.mk 1 a 0 cap [])
  | tuple (d : Nat) (a : Option Addr) (len cap : Nat) (l : List TT) (h : l.length ≤ 3) (hk : ∀ c ∈ l, TT.ok d c) : TT.ok (d + 1) (.mk 2 a len cap l)
  | sum (d : Nat) (a : Option Addr) (len cap : Nat) (l : List TT) (h : 1 ≤ l.length) (h3 : l.length ≤ 3) (hk : ∀ c ∈ l, TT.ok d c) : TT.ok (d + 1) (.mk 3 a len cap l)
/-- How far a type reads. -/
def costT : Nat → Int
  | 0 => 1
  | d + 1 => 2 + 3 * costT d
theorem costT_pos (d : Nat) : 1 ≤ costT d := by induction d <;> simp [costT]; omega


def cellsT (l : List TT) : List Value := l.flatMap (fun c => [.int .i64 c.k, c.row])
theorem cellsT_snoc (l : List TT) (c : TT) : cellsT (l ++ [c]) = cellsT l ++ [.int .i64 c.k, c.row] := by simp [cellsT]
theorem ownBlock_ge {W : World} {B : Nat} {e : TypeId} {size n : Nat} {v : Value} {xs : List Value} (h : W.ownsRow B e size v n xs) : ∀ g, v.ownBlock = some g → B ≤ g := by
  intro g hg
  rcases h.2 with ⟨rfl, _⟩ | ⟨g', cap, cur, rfl, hb, _⟩
  · simp [Value.ownBlock] at hg
  · simp [Value.ownBlock] at hg; omega
theorem ownsRow_kept {W W' : World} {B : Nat} {e : TypeId} {size n : Nat} {v : Value} {xs : List Value} (h : W.ownsRow B e size v n xs) (hk : ∀ g, B ≤ g → g < W.heap.size → W'.heap[g]? = W.heap[g]?) : W'.ownsRow B e size v n xs := by
  refine ⟨h.1, ?_⟩
  rcases h.2 with h2 | ⟨g, cap, cur, rfl, hb, hh, h3⟩
  · exact .inl h2
  · exact .inr ⟨g, cap, cur, rfl, hb, (hk g hb (Array.getElem?_eq_some_iff.1 hh).1).trans hh, h3⟩

/-- What holds in a type's loop, behind k rounds. -/
structure RelT (B : Nat) (w : World) (d : Nat) (K : Int) (k : Nat) (v : Value) (kids : List TT) (W : World) : Prop where
  len : kids.length = k
  own : W.ownsRow (B + 2) 27 2 v k (cellsT kids)
  box : W.heap[B + 1]? = some (.cells #[.int .i64 K, v] 27 (0, 0))
  res : W.heap[B]? = some (.cells #[.int .i64 0, .slice none 0 0] 27 (0, 0))
  bel : Below B w W
  kids : ∀ c ∈ kids, IsTT (fun b => B + 2 ≤ b ∧ b < W.heap.size ∧ v.ownBlock ≠ some b) W c ∧ c.ok d

theorem setSecond {W : World} {B : Nat} {t : TypeId} {x y v : Value} (h : W.heap[B]? = some (.cells #[x, y] t (0, 0))) : (W.setCell ⟨B, 1, none⟩ v).heap[B]? = some (.cells #[x, v] t (0, 0)) := by
  obtain ⟨hlt, hk⟩ := Array.getElem?_eq_some_iff.1 h
  show (W.heap.modify B _)[B]? = _
  rw [Array.getElem?_eq_getElem (by rw [Array.size_modify]; exact hlt), Array.getElem_modify_self, hk]
  rfl

theorem RelT.step {B : Nat} {w : World} {d : Nat} {K : Int} {k : Nat} {v v' : Value} {kids : List TT} {W W3 W6 : World} {c : TT} {o1 o2 : Obj} (h : RelT B w d K k v kids W) (hb : Below W.heap.size W W3)
    (hc : IsTT (fun b => W.heap.size ≤ b ∧ b < W3.heap.size) W3 c) (hok : c.ok d) (hown : W6.ownsRow (B + 2) 27 2 v' (k + 1) (cellsT kids ++ [.int .i64 c.k, c.row]))
    (hg : ((W3.alloc o1).alloc o2).grownBy W6 v.ownBlock) (hv : v'.ownBlock = v.ownBlock ∨ v'.ownBlock = some ((W3.alloc o1).alloc o2).heap.size) :
    RelT B w d K (k + 1) v' (kids ++ [c]) (W6.setCell ⟨B + 1, 1, none⟩ v') := by
  have hge := ownBlock_ge h.own
  have hlt : ∀ g, v.ownBlock = some g → g < W.heap.size := by
    intro g hg
    rcases h.own.2 with ⟨rfl, _⟩ | ⟨g', cap, cur, rfl, _, hh, _⟩
    · simp [Value.ownBlock] at hg
    · simp [Value.ownBlock] at hg; rw [← hg]; exact (Array.getElem?_eq_some_iff.1 hh).1
  have hB1 := (Array.getElem?_eq_some_iff.1 h.box).1
  have hs := h.bel.size
  have hs3 := hb.size
  have h5 : ((W3.alloc o1).alloc o2).heap.size = W3.heap.size + 2 := by simp
  have hb5 : Below W.heap.size W ((W3.alloc o1).alloc o2) := (hb.alloc hs3 _).alloc (by simp; omega) _
  have hs6 := hg.size
  -- blocks ahead of the round, the row's apart
  have k6 : ∀ b, b < W.heap.size → v.ownBlock ≠ some b → W6.heap[b]? = W.heap[b]? := fun b h1 h2 => (hg.block b (by omega) (fun e => h2 e.symm)).trans (hb5.block b h1)
  have ks : ∀ b, b ≠ B + 1 → (W6.setCell ⟨B + 1, 1, none⟩ v').heap[b]? = W6.heap[b]? := fun b hne => Below.heap_setCell _ _ _ b hne
  have hsz : (W6.setCell ⟨B + 1, 1, none⟩ v').heap.size = W6.heap.size := by simp [World.setCell]
  have box6 : W6.heap[B + 1]? = some (.cells #[.int .i64 K, v] 27 (0, 0)) := (k6 _ hB1 (fun e => by have := hge _ e; omega)).trans h.box
  refine ⟨by simp [h.len], ?_, setSecond box6, ?_, ?_, ?_⟩
  · rw [cellsT_snoc]
    exact ownsRow_kept hown (fun g hg1 _ => ks g (by omega))
  · rw [ks _ (by omega), k6 _ (by omega) (fun e => by have := hge _ e; omega)]; exact h.res
  · refine (h.bel.trans ?_).setCell (p := ⟨B + 1, 1, none⟩) (by simp) _
    exact (hb5.mono (by omega)).grown hg (by omega) (fun j e => by have := hge j e; omega)
  · intro c' hc'
    rcases List.mem_append.1 hc' with hc' | hc'
    · obtain ⟨h1, h2⟩ := h.kids c' hc'
      refine ⟨h1.kept (fun b hb' => ⟨hb'.1, by omega, fun e => ?_⟩) (fun b hb' hbl => (ks b (by omega)).trans (k6 b hb'.2.1 hb'.2.2)), h2⟩
      rcases hv with hv | hv
      · exact hb'.2.2 (hv ▸ e)
      · rw [hv] at e; cases e; omega
    · rw [List.mem_singleton.1 hc']
      have q1 : ∀ b, (W.heap.size ≤ b ∧ b < W3.heap.size) → B + 2 ≤ b ∧ b < (W6.setCell ⟨B + 1, 1, none⟩ v').heap.size ∧ v'.ownBlock ≠ some b := fun b hb' => ⟨by omega, by omega, fun e => by
        rcases hv with hv | hv
        · rw [hv] at e; have := hlt b e; omega
        · rw [hv] at e; cases e; omega⟩
      have q2 : ∀ b, (W.heap.size ≤ b ∧ b < W3.heap.size) → b < W3.heap.size → (W6.setCell ⟨B + 1, 1, none⟩ v').heap[b]? = W3.heap[b]? := fun b hb' hbl =>
        ((ks b (by omega)).trans (hg.block b (by omega) (fun e => by have := hlt b e.symm; omega))).trans ((Below.heap_alloc (W3.alloc o1) o2 b (by simp; omega)).trans (Below.heap_alloc W3 o1 b hbl))
      exact ⟨hc.kept q1 q2, hok⟩

theorem RelT.box6 {B : Nat} {w : World} {d : Nat} {K : Int} {k : Nat} {v : Value} {kids : List TT} {W W3 W6 : World} {o1 o2 : Obj} (h : RelT B w d K k v kids W) (hb : Below W.heap.size W W3) (hg : ((W3.alloc o1).alloc o2).grownBy W6 v.ownBlock) :
    W6.heap[B + 1]? = some (.cells #[.int .i64 K, v] 27 (0, 0)) := by
  have hge := ownBlock_ge h.own
  have hB1 := (Array.getElem?_eq_some_iff.1 h.box).1
  have hs3 := hb.size
  have hb5 : Below W.heap.size W ((W3.alloc o1).alloc o2) := (hb.alloc hs3 _).alloc (by simp; omega) _
  exact (hg.block _ (by simp; omega) (fun e => by have := hge _ e.symm; omega)).trans ((hb5.block _ hB1).trans h.box)
theorem cellsT_at {l : List TT} {i : Nat} {c : TT} (h : l[i]? = some c) : (cellsT l)[i * 2]? = some (.int .i64 c.k) ∧ (cellsT l)[i * 2 + 1]? = some c.row := by
  induction l generalizing i with
  | nil => simp at h
  | cons x l ih =>
    cases i with
    | zero => simp at h; subst h; simp [cellsT]
    | succ i =>
      have := ih (i := i) (by simpa using h)
      simp only [cellsT, List.flatMap_cons] at this ⊢
      rw [show (i + 1) * 2 = i * 2 + 2 from by omega, show i * 2 + 2 + 1 = i * 2 + 1 + 2 from by omega]
      simpa using this
theorem RelT.isTT {B : Nat} {w : World} {d : Nat} {K : Int} {k : Nat} {va : Option Addr} {vc : Nat} {kids : List TT} {W : World} (h : RelT B w d K k (.slice va k vc) kids W) (hk : k ≤ 3) (K' : Int) : IsTT (fun b => B + 2 ≤ b ∧ b < W.heap.size) W (.mk K' va k vc kids) := by
  refine .mk _ _ _ _ _ h.len.symm (by omega) (fun i c hi => ?_) (fun c hc => (h.kids c hc).1.kept (fun b hb => ⟨hb.1, hb.2.1⟩) (fun _ _ _ => rfl))
  have hil : i < kids.length := (List.getElem?_eq_some_iff.1 hi).1
  have hl := h.len
  rcases h.own.2 with ⟨_, hn⟩ | ⟨g, cap, cur, hv, hg, hh, _, _, _, htk⟩
  · omega
  · cases hv
    obtain ⟨h0, h1⟩ := cellsT_at hi
    rw [← htk, List.getElem?_take] at h0 h1
    rw [if_pos (by omega)] at h0 h1
    refine ⟨g, rfl, ⟨hg, (Array.getElem?_eq_some_iff.1 hh).1⟩, ?_, ?_⟩
    · simpa [World.cell?, hh] using h0
    · simpa [World.cell?, hh] using h1
theorem setFirst {W : World} {B : Nat} {t : TypeId} {x y v : Value} (h : W.heap[B]? = some (.cells #[x, y] t (0, 0))) : (W.setCell ⟨B, 0, none⟩ v).heap[B]? = some (.cells #[v, y] t (0, 0)) := by
  obtain ⟨hlt, hk⟩ := Array.getElem?_eq_some_iff.1 h
  show (W.heap.modify B _)[B]? = _
  rw [Array.getElem?_eq_getElem (by rw [Array.size_modify]; exact hlt), Array.getElem_modify_self, hk]
  rfl
theorem RelT.fin {B : Nat} {w : World} {d : Nat} {K : Int} {k : Nat} {va : Option Addr} {vc : Nat} {kids : List TT} {W : World} (h : RelT B w d K k (.slice va k vc) kids W) (hk : k ≤ 3) (K' : Int) :
    ((W.setCell ⟨B, 0, none⟩ (.int .i64 K')).setCell ⟨B, 1, none⟩ (.slice va k vc)).heap[B]? = some (.cells #[.int .i64 K', .slice va k vc] 27 (0, 0)) ∧
    IsTT (fun b => B ≤ b ∧ b < ((W.setCell ⟨B, 0, none⟩ (.int .i64 K')).setCell ⟨B, 1, none⟩ (.slice va k vc)).heap.size) ((W.setCell ⟨B, 0, none⟩ (.int .i64 K')).setCell ⟨B, 1, none⟩ (.slice va k vc)) (.mk K' va k vc kids) ∧
    (∀ c ∈ kids, c.ok d) ∧ kids.length = k ∧ Below B w ((W.setCell ⟨B, 0, none⟩ (.int .i64 K')).setCell ⟨B, 1, none⟩ (.slice va k vc)) := by
  have hsz : ((W.setCell ⟨B, 0, none⟩ (.int .i64 K')).setCell ⟨B, 1, none⟩ (.slice va k vc)).heap.size = W.heap.size := by simp [World.setCell]
  have q1 : ∀ b, (B + 2 ≤ b ∧ b < W.heap.size) → B ≤ b ∧ b < ((W.setCell ⟨B, 0, none⟩ (.int .i64 K')).setCell ⟨B, 1, none⟩ (.slice va k vc)).heap.size := fun b hb => ⟨by omega, by omega⟩
  have q2 : ∀ b, (B + 2 ≤ b ∧ b < W.heap.size) → b < W.heap.size → ((W.setCell ⟨B, 0, none⟩ (.int .i64 K')).setCell ⟨B, 1, none⟩ (.slice va k vc)).heap[b]? = W.heap[b]? := fun b hb _ =>
    (Below.heap_setCell (W.setCell ⟨B, 0, none⟩ (.int .i64 K')) ⟨B, 1, none⟩ (.slice va k vc) b (by simp; omega)).trans (Below.heap_setCell W ⟨B, 0, none⟩ (.int .i64 K') b (by simp; omega))
  exact ⟨setSecond (setFirst h.res), (h.isTT hk K').kept q1 q2, fun c hc => (h.kids c hc).2, h.len, (h.bel.setCell (p := ⟨B, 0, none⟩) (Nat.le_refl _) _).setCell (p := ⟨B, 1, none⟩) (Nat.le_refl _) _⟩
theorem RelT.start (w : World) (d : Nat) (K : Int) : RelT w.heap.size w d K 0 (.slice none 0 0) [] ((w.alloc (.cells #[.int .i64 0, .slice none 0 0] 27)).alloc (.cells #[.int .i64 K, .slice none 0 0] 27)) := by
  refine ⟨rfl, ⟨rfl, .inl ⟨rfl, rfl⟩⟩, ?_, ?_, ((Below.refl _ _).alloc (Nat.le_refl _) _).alloc (by simp) _, fun c hc => by simp at hc⟩
  · have := World.alloc_heap_new (w.alloc (.cells #[.int .i64 0, .slice none 0 0] 27)) (.cells #[.int .i64 K, .slice none 0 0] 27)
    rwa [World.size_alloc] at this
  · exact (Below.heap_alloc _ _ _ (by simp)).trans (World.alloc_heap_new w _)
theorem Below.cell_al {W : World} {p : Addr} {v : Value} (o : Obj) (h : W.cell? p = some v) : (W.alloc o).cell? p = some v :=
  (((Below.refl W.heap.size W).alloc (Nat.le_refl _) o).cell (p := p) (cell_lt (b := p.block) (o := p.off) (v := v) (by
    unfold World.cell? at h ⊢
    split at h <;> try (cases h; done)
    rename_i hh
    simp only [hh]
    split at h
    · cases h
    · simpa using h))).trans h
theorem isSlice {W : World} {B : Nat} {e : TypeId} {size n : Nat} {v : Value} {xs : List Value} (h : W.ownsRow B e size v n xs) : ∃ va vc, v = .slice va n vc := by
  rcases h.2 with ⟨rfl, rfl⟩ | ⟨g, cap, cur, rfl, _⟩
  · exact ⟨_, _, rfl⟩
  · exact ⟨_, _, rfl⟩
theorem leafT (k : Int) (w : World) (o : Obj) (d : Nat) (hk : k = 0 ∨ k = 1) : IsTT (fun b => w.heap.size ≤ b ∧ b < (w.alloc o).heap.size) (w.alloc o) (.mk k none 0 0 []) ∧ TT.ok (d + 1) (.mk k none 0 0 []) ∧ Below w.heap.size w (w.alloc o) := by
  refine ⟨.mk _ _ _ _ _ rfl (by omega) (fun i c hi => by simp at hi) (fun c hc => by simp at hc), ?_, (Below.refl _ _).alloc (Nat.le_refl _) _⟩
  rcases hk with rfl | rfl
  · exact .int _ _ _
  · exact .text _ _ _

theorem infoT : (Tryz.prog.info? 27).map (fun i => (i.zero, i.size, i.bytes)) = some (some (.agg #[.int .i64 0, .slice none 0 0]), 2, 32) := by kernel_rfl
theorem undT : Tryz.prog.underlying 25 = some (.slice 27) := by kernel_rfl

set_option maxRecDepth 100000 in
set_option maxHeartbeats 1000000 in
theorem MadeType_any (n₀ : Nat) (a : Option Addr) (len cap : Nat) (l : List Int) : ∀ (d : Nat) (at_ : Int) (w : World), 0 ≤ at_ → at_ + costT d ≤ 1000000 → d ≤ 100 → IsInts n₀ w a len l → n₀ ≤ w.heap.size →
    Calls Tryz.prog 42 #[.slice a len cap, .int .i64 at_, .int .i64 ((d : Int) + 1)] w fun e w' => ∃ T at', e = .returned (.tuple #[.agg #[.int .i64 T.k, T.row], .int .i64 at']) ∧ at_ ≤ at' ∧ at' ≤ at_ + costT d ∧
      IsTT (fun b => w.heap.size ≤ b ∧ b < w'.heap.size) w' T ∧ T.ok (d + 1) ∧ Below w.heap.size w w' := by
  intro d
  induction d with
  | zero =>
    intro at_ w h0 h1 hd hl hn
    have hN := fun W h => Nth_any n₀ a len cap l at_ W h
    have hN1 := hN _ (hl.bel (((Below.refl w.heap.size w).alloc (Nat.le_refl _) (.cells #[.int .i64 0, .slice none 0 0] 27)).mono hn))
    have hT := fun W => Turn_any (nthF l at_) 8 (by omega) (by omega) W
    have hc : costT 0 = 1 := rfl
    have HL := Lib.hid (leafT 0 w (.cells #[.int .i64 0, .slice none 0 0] 27) 0 (.inl rfl))
    clear hN hl
    go_enter Tryz.func42, Tryz.ntmps42
    go_wp2_with (first | (go_at_call 60; refine hN1.mono ?_; clear hN1; rintro e w' ⟨rfl, rfl⟩) | (go_at_call 59; refine (hT _).mono ?_; clear hT; rintro e w' ⟨rfl, rfl⟩))
    all_goals
      refine ⟨rfl, .tuple #[.agg #[.int .i64 0, .slice none 0 0], .int .i64 (at_ + 1)], ?_, .mk 0 none 0 0 [], at_ + 1, rfl, by omega, by omega, HL.out⟩
      simp [results, Tryz.f42, go_sem]
  | succ d ih =>
    intro at_ w h0 h1 hd hl hn
    have hcd := costT_pos d
    have hc : costT (d + 1) = 2 + 3 * costT d := rfl
    rw [hc] at h1 ⊢
    have hb1 : Below w.heap.size w (w.alloc (.cells #[.int .i64 0, .slice none 0 0] 27)) := (Below.refl _ _).alloc (Nat.le_refl _) _
    have hN1 := Nth_any n₀ a len cap l at_ _ (hl.bel (hb1.mono hn))
    obtain ⟨n, hnn⟩ : ∃ n, turnF (nthF l at_) 8 = n := ⟨_, rfl⟩
    have hnr := turnF_lt (nthF l at_) (m := 8) (by omega)
    have hT := fun W => Turn_any (nthF l at_) 8 (by omega) (by omega) W
    rw [hnn] at hT hnr
    clear hnn
    rw [show ((d + 1 : Nat) : Int) + 1 = (d : Int) + 2 from by omega]
    by_cases hn3 : n < 4
    · have HL0 := Lib.hid (leafT 0 w (.cells #[.int .i64 0, .slice none 0 0] 27) (d + 1) (.inl rfl))
      have HL1 := Lib.hid (leafT 1 w (.cells #[.int .i64 1, .slice none 0 0] 27) (d + 1) (.inr rfl))
      clear ih hl
      by_cases hn2 : n = 3
      · subst hn2
        go_enter Tryz.func42, Tryz.ntmps42
        go_wp2_with (first | (go_at_call 60; refine hN1.mono ?_; clear hN1; rintro e w' ⟨rfl, rfl⟩) | (go_at_call 59; refine (hT _).mono ?_; clear hT; rintro e w' ⟨rfl, rfl⟩))
        refine ⟨rfl, .tuple #[.agg #[.int .i64 1, .slice none 0 0], .int .i64 (at_ + 1)], ?_, .mk 1 none 0 0 [], at_ + 1, rfl, by omega, by omega, HL1.out⟩
        simp [results, Tryz.f42, go_sem]
      · have hn3 : n < 3 := by omega
        go_enter Tryz.func42, Tryz.ntmps42
        go_wp2_with (first | (go_at_call 60; refine hN1.mono ?_; clear hN1; rintro e w' ⟨rfl, rfl⟩) | (go_at_call 59; refine (hT _).mono ?_; clear hT; rintro e w' ⟨rfl, rfl⟩))
        refine ⟨rfl, .tuple #[.agg #[.int .i64 0, .slice none 0 0], .int .i64 (at_ + 1)], ?_, .mk 0 none 0 0 [], at_ + 1, rfl, by omega, by omega, HL0.out⟩
        simp [results, Tryz.f42, go_sem]
    · obtain ⟨W2, hW2⟩ : ∃ W2, (w.alloc (.cells #[.int .i64 0, .slice none 0 0] 27)).alloc (.cells #[.int .i64 2, .slice none 0 0] 27) = W2 := ⟨_, rfl⟩
      have hb2 : Below w.heap.size w W2 := by rw [← hW2]; exact hb1.alloc (by simp) _
      have hN2 := Nth_any n₀ a len cap l (at_ + 1) W2 (hl.bel (hb2.mono hn))
      have hm := turnF_lt (nthF l (at_ + 1)) (m := 4) (by omega)
      have hT2 := fun W => Turn_any (nthF l (at_ + 1)) 4 (by omega) (by omega) W
      obtain ⟨M, hM⟩ : ∃ M : Nat, turnF (nthF l (at_ + 1)) 4 = M := ⟨(turnF (nthF l (at_ + 1)) 4).toNat, by omega⟩
      rw [hM] at hT2 hm
      clear hM
      rw [← hW2] at hN2
      have HI := Lib.hid ih
      have HL := Lib.hid hl
      clear ih hl hb2 hW2
      by_cases hn7 : n = 7
      · subst hn7
        by_cases hM0 : M = 0
        · subst hM0
          clear hnr hm
          go_enter Tryz.func42, Tryz.ntmps42
          go_wp2_with (first | (go_at_call 60; refine hN1.mono ?_; clear hN1; rintro e w' ⟨rfl, rfl⟩) | (go_at_call 60; refine hN2.mono ?_; clear hN2; rintro e w' ⟨rfl, rfl⟩) | (go_at_call 59; refine (hT _).mono ?_; clear hT; rintro e w' ⟨rfl, rfl⟩) | (go_at_call 59; refine (hT2 _).mono ?_; clear hT2; rintro e w' ⟨rfl, rfl⟩))
          go_loopw [1, 11] (fun p i wr => ∃ (k : Nat) (q : Int) (kids : List TT) (v : Value), k ≤ 1 ∧ i = .int .i64 k ∧ p = .int .i64 q ∧ at_ + 2 ≤ q ∧ q ≤ at_ + 2 + k * costT d ∧ RelT w.heap.size w (d + 1) 3 k v kids wr) (fun _ i _ => 1 - (intOf i).toNat)
          case atStart =>
            refine ⟨0, _, [], .slice none 0 0, Nat.zero_le _, rfl, rfl, by omega, by omega, ?_⟩
            exact RelT.start _ _ _
          case round =>
            obtain ⟨k, q, kids, v, hk, rfl, rfl, hq0, hq1, R⟩ := hrel
            obtain ⟨va, vc, rfl⟩ := isSlice R.own
            by_cases hlt : k < 1
            · have hmul : (k : Int) * costT d ≤ 2 * costT d := Int.mul_le_mul_of_nonneg_right (by omega) (by omega)
              have hih := HI.out q wr (by omega) (by omega) (by omega) (HL.out.bel (R.bel.mono hn)) (by have := R.bel.size; omega)
              rw [show (d : Int) + 1 = (d : Int) + 2 - 1 from by omega] at hih
              have b1 : wr.cell? ⟨w.heap.size + 1, 1, none⟩ = some (.slice va k vc) := by simp [World.cell?, R.box]
              have HR := Lib.hid R
              have HM := Lib.hid (And.intro hmul (And.intro hq0 (And.intro hq1 (And.intro h0 (And.intro h1 (And.intro hcd hc))))))
              have hd' : (d : Int) ≤ 100 := by omega
              clear R hmul hq0 hq1 h0 h1 hcd hc hd hn hk hb1 hn3
              obtain ⟨i0, hi, hz0, hz1, hz2⟩ := info_parts infoT
              go_wp2_with (first
                | (go_at_call 42; refine hih.mono ?_; clear hih; rintro e W3 ⟨⟨ck, ca, cl, cc, ckids⟩, q', rfl, hq2, hq3, hc3, hok, hb3⟩; have bx3 := Below.cell_al (.cells #[.int .i64 ck, .slice ca cl cc] 27) ((hb3.cell (p := ⟨w.heap.size + 1, 1, none⟩) (cell_lt b1)).trans b1); have HB3 := Lib.hid hb3; clear hb3; have HC3 := Lib.hid (And.intro hq2 (And.intro hq3 (And.intro hc3 hok))); clear hq2 hq3 hc3 hok; simp only [TT.k, TT.row, TT.a, TT.len, TT.cap])
                | (at_builtin; refine wpList_append_own_at _ rfl _ _ 25 rfl (w.heap.size + 2) 27 i0 (.agg #[.int .i64 0, .slice none 0 0]) 2 32 undT hi hz0 hz1 hz2 rfl (by decide) _ _ _ rfl
                    (ownsRow_kept HR.out.own (fun g _ hg => ((Below.heap_alloc _ _ g (by have := HB3.out.size; simp; omega)).trans (Below.heap_alloc _ _ g (by have := HB3.out.size; omega))).trans (HB3.out.block g hg)) : World.ownsRow ((W3.alloc (.cells #[.int .i64 ck, .slice ca cl cc] 27)).alloc (.cells #[.int .i64 ck, .slice ca cl cc] 27)) _ _ _ _ _ _) ⟨W3.heap.size + 1, 0, none⟩ 1 1 [.int .i64 ck, .slice ca cl cc] rfl rfl ?c1 ?c2 ?c3 ?c4 ?c5 ?_))
              case c1 =>
                intro j u hj
                rcases j with _ | _ | j
                · simp at hj; subst hj; simp [Addr.add, go_sem]
                · simp at hj; subst hj; simp [Addr.add, go_sem]
                · simp at hj
              case c2 => intro u hu; simp at hu; rcases hu with rfl | rfl <;> rfl
              case c3 => unfold maxLen; omega
              case c4 => omega
              case c5 => have := HR.out.bel.size; have := HB3.out.size; have := (Array.getElem?_eq_some_iff.1 HR.out.box).1; simp; omega
              · intro v' W6 hown' hgrow _ hv'
                obtain ⟨va', vc', rfl⟩ := isSlice hown'
                have x6 := HR.out.box6 HB3.out hgrow
                have c6 : W6.cell? ⟨w.heap.size + 1, 1, none⟩ = some (.slice va k vc) := by simp [World.cell?, x6]
                have g6 : W6.frozen? ⟨w.heap.size + 1, 1, none⟩ = false := by simp [World.frozen?, x6]
                have R7 := Lib.hid (HR.out.step (c := .mk ck ca cl cc ckids) HB3.out HC3.out.2.2.1 HC3.out.2.2.2 hown' hgrow (by rw [World.size_alloc, World.size_alloc]; exact hv'))
                clear hown' hgrow hv' x6
                go_wp2
                go_roundw
                case rel =>
                  have hA := HC3.out
                  have hB := HM.out
                  exact ⟨k + 1, q', _, _, by omega, by go_num, rfl, by omega, by rw [show ((k + 1 : Nat) : Int) = (k : Int) + 1 from by omega, Int.add_mul]; omega, R7.out⟩
                case measure => simp [intOf]; omega
            · have b0 : wr.cell? ⟨w.heap.size + 1, 0, none⟩ = some (.int .i64 3) := by simp [World.cell?, R.box]
              have b1 : wr.cell? ⟨w.heap.size + 1, 1, none⟩ = some (.slice va k vc) := by simp [World.cell?, R.box]
              have r0 : wr.cell? ⟨w.heap.size, 0, none⟩ = some (.int .i64 0) := by simp [World.cell?, R.res]
              have r1 : wr.cell? ⟨w.heap.size, 1, none⟩ = some (.slice none 0 0) := by simp [World.cell?, R.res]
              have f0 : wr.frozen? ⟨w.heap.size, 0, none⟩ = false := by simp [World.frozen?, R.res]
              have f1 : wr.frozen? ⟨w.heap.size, 1, none⟩ = false := by simp [World.frozen?, R.res]
              have HR := Lib.hid R
              clear R
              go_wp2
              have hkM : k = 1 := by omega
              obtain ⟨h1', h2', h3', h4', h5'⟩ := HR.out.fin (by omega) 3
              have hmul : (k : Int) * costT d ≤ 3 * costT d := Int.mul_le_mul_of_nonneg_right (by omega) (by omega)
              refine ⟨rfl, .tuple #[.agg #[.int .i64 3, .slice va k vc], .int .i64 q], ?_, .mk 3 va k vc kids, q, rfl, by omega, by omega, h2', .sum _ _ _ _ _ (by omega) (by omega) h3', h5'⟩
              simp [results, Tryz.f42, go_sem, World.cell?, h1']
        by_cases hM2 : M = 1
        · subst hM2
          clear hnr hm
          go_enter Tryz.func42, Tryz.ntmps42
          go_wp2_with (first | (go_at_call 60; refine hN1.mono ?_; clear hN1; rintro e w' ⟨rfl, rfl⟩) | (go_at_call 60; refine hN2.mono ?_; clear hN2; rintro e w' ⟨rfl, rfl⟩) | (go_at_call 59; refine (hT _).mono ?_; clear hT; rintro e w' ⟨rfl, rfl⟩) | (go_at_call 59; refine (hT2 _).mono ?_; clear hT2; rintro e w' ⟨rfl, rfl⟩))
          go_loopw [1, 11] (fun p i wr => ∃ (k : Nat) (q : Int) (kids : List TT) (v : Value), k ≤ 1 ∧ i = .int .i64 k ∧ p = .int .i64 q ∧ at_ + 2 ≤ q ∧ q ≤ at_ + 2 + k * costT d ∧ RelT w.heap.size w (d + 1) 3 k v kids wr) (fun _ i _ => 1 - (intOf i).toNat)
          case atStart =>
            refine ⟨0, _, [], .slice none 0 0, Nat.zero_le _, rfl, rfl, by omega, by omega, ?_⟩
            exact RelT.start _ _ _
          case round =>
            obtain ⟨k, q, kids, v, hk, rfl, rfl, hq0, hq1, R⟩ := hrel
            obtain ⟨va, vc, rfl⟩ := isSlice R.own
            by_cases hlt : k < 1
            · have hmul : (k : Int) * costT d ≤ 2 * costT d := Int.mul_le_mul_of_nonneg_right (by omega) (by omega)
              have hih := HI.out q wr (by omega) (by omega) (by omega) (HL.out.bel (R.bel.mono hn)) (by have := R.bel.size; omega)
              rw [show (d : Int) + 1 = (d : Int) + 2 - 1 from by omega] at hih
              have b1 : wr.cell? ⟨w.heap.size + 1, 1, none⟩ = some (.slice va k vc) := by simp [World.cell?, R.box]
              have HR := Lib.hid R
              have HM := Lib.hid (And.intro hmul (And.intro hq0 (And.intro hq1 (And.intro h0 (And.intro h1 (And.intro hcd hc))))))
              have hd' : (d : Int) ≤ 100 := by omega
              clear R hmul hq0 hq1 h0 h1 hcd hc hd hn hk hb1 hn3
              obtain ⟨i0, hi, hz0, hz1, hz2⟩ := info_parts infoT
              go_wp2_with (first
                | (go_at_call 42; refine hih.mono ?_; clear hih; rintro e W3 ⟨⟨ck, ca, cl, cc, ckids⟩, q', rfl, hq2, hq3, hc3, hok, hb3⟩; have bx3 := Below.cell_al (.cells #[.int .i64 ck, .slice ca cl cc] 27) ((hb3.cell (p := ⟨w.heap.size + 1, 1, none⟩) (cell_lt b1)).trans b1); have HB3 := Lib.hid hb3; clear hb3; have HC3 := Lib.hid (And.intro hq2 (And.intro hq3 (And.intro hc3 hok))); clear hq2 hq3 hc3 hok; simp only [TT.k, TT.row, TT.a, TT.len, TT.cap])
                | (at_builtin; refine wpList_append_own_at _ rfl _ _ 25 rfl (w.heap.size + 2) 27 i0 (.agg #[.int .i64 0, .slice none 0 0]) 2 32 undT hi hz0 hz1 hz2 rfl (by decide) _ _ _ rfl
                    (ownsRow_kept HR.out.own (fun g _ hg => ((Below.heap_alloc _ _ g (by have := HB3.out.size; simp; omega)).trans (Below.heap_alloc _ _ g (by have := HB3.out.size; omega))).trans (HB3.out.block g hg)) : World.ownsRow ((W3.alloc (.cells #[.int .i64 ck, .slice ca cl cc] 27)).alloc (.cells #[.int .i64 ck, .slice ca cl cc] 27)) _ _ _ _ _ _) ⟨W3.heap.size + 1, 0, none⟩ 1 1 [.int .i64 ck, .slice ca cl cc] rfl rfl ?c1 ?c2 ?c3 ?c4 ?c5 ?_))
              case c1 =>
                intro j u hj
                rcases j with _ | _ | j
                · simp at hj; subst hj; simp [Addr.add, go_sem]
                · simp at hj; subst hj; simp [Addr.add, go_sem]
                · simp at hj
              case c2 => intro u hu; simp at hu; rcases hu with rfl | rfl <;> rfl
              case c3 => unfold maxLen; omega
              case c4 => omega
              case c5 => have := HR.out.bel.size; have := HB3.out.size; have := (Array.getElem?_eq_some_iff.1 HR.out.box).1; simp; omega
              · intro v' W6 hown' hgrow _ hv'
                obtain ⟨va', vc', rfl⟩ := isSlice hown'
                have x6 := HR.out.box6 HB3.out hgrow
                have c6 : W6.cell? ⟨w.heap.size + 1, 1, none⟩ = some (.slice va k vc) := by simp [World.cell?, x6]
                have g6 : W6.frozen? ⟨w.heap.size + 1, 1, none⟩ = false := by simp [World.frozen?, x6]
                have R7 := Lib.hid (HR.out.step (c := .mk ck ca cl cc ckids) HB3.out HC3.out.2.2.1 HC3.out.2.2.2 hown' hgrow (by rw [World.size_alloc, World.size_alloc]; exact hv'))
                clear hown' hgrow hv' x6
                go_wp2
                go_roundw
                case rel =>
                  have hA := HC3.out
                  have hB := HM.out
                  exact ⟨k + 1, q', _, _, by omega, by go_num, rfl, by omega, by rw [show ((k + 1 : Nat) : Int) = (k : Int) + 1 from by omega, Int.add_mul]; omega, R7.out⟩
                case measure => simp [intOf]; omega
            · have b0 : wr.cell? ⟨w.heap.size + 1, 0, none⟩ = some (.int .i64 3) := by simp [World.cell?, R.box]
              have b1 : wr.cell? ⟨w.heap.size + 1, 1, none⟩ = some (.slice va k vc) := by simp [World.cell?, R.box]
              have r0 : wr.cell? ⟨w.heap.size, 0, none⟩ = some (.int .i64 0) := by simp [World.cell?, R.res]
              have r1 : wr.cell? ⟨w.heap.size, 1, none⟩ = some (.slice none 0 0) := by simp [World.cell?, R.res]
              have f0 : wr.frozen? ⟨w.heap.size, 0, none⟩ = false := by simp [World.frozen?, R.res]
              have f1 : wr.frozen? ⟨w.heap.size, 1, none⟩ = false := by simp [World.frozen?, R.res]
              have HR := Lib.hid R
              clear R
              go_wp2
              have hkM : k = 1 := by omega
              obtain ⟨h1', h2', h3', h4', h5'⟩ := HR.out.fin (by omega) 3
              have hmul : (k : Int) * costT d ≤ 3 * costT d := Int.mul_le_mul_of_nonneg_right (by omega) (by omega)
              refine ⟨rfl, .tuple #[.agg #[.int .i64 3, .slice va k vc], .int .i64 q], ?_, .mk 3 va k vc kids, q, rfl, by omega, by omega, h2', .sum _ _ _ _ _ (by omega) (by omega) h3', h5'⟩
              simp [results, Tryz.f42, go_sem, World.cell?, h1']
        · have hM1 : (1 : Int) < M := by omega
          clear hnr
          go_enter Tryz.func42, Tryz.ntmps42
          go_wp2_with (first | (go_at_call 60; refine hN1.mono ?_; clear hN1; rintro e w' ⟨rfl, rfl⟩) | (go_at_call 60; refine hN2.mono ?_; clear hN2; rintro e w' ⟨rfl, rfl⟩) | (go_at_call 59; refine (hT _).mono ?_; clear hT; rintro e w' ⟨rfl, rfl⟩) | (go_at_call 59; refine (hT2 _).mono ?_; clear hT2; rintro e w' ⟨rfl, rfl⟩))
          go_loopw [1, 11] (fun p i wr => ∃ (k : Nat) (q : Int) (kids : List TT) (v : Value), k ≤ M ∧ i = .int .i64 k ∧ p = .int .i64 q ∧ at_ + 2 ≤ q ∧ q ≤ at_ + 2 + k * costT d ∧ RelT w.heap.size w (d + 1) 3 k v kids wr) (fun _ i _ => M - (intOf i).toNat)
          case atStart =>
            refine ⟨0, _, [], .slice none 0 0, Nat.zero_le _, rfl, rfl, by omega, by omega, ?_⟩
            exact RelT.start _ _ _
          case round =>
            obtain ⟨k, q, kids, v, hk, rfl, rfl, hq0, hq1, R⟩ := hrel
            obtain ⟨va, vc, rfl⟩ := isSlice R.own
            by_cases hlt : k < M
            · have hmul : (k : Int) * costT d ≤ 2 * costT d := Int.mul_le_mul_of_nonneg_right (by omega) (by omega)
              have hih := HI.out q wr (by omega) (by omega) (by omega) (HL.out.bel (R.bel.mono hn)) (by have := R.bel.size; omega)
              rw [show (d : Int) + 1 = (d : Int) + 2 - 1 from by omega] at hih
              have b1 : wr.cell? ⟨w.heap.size + 1, 1, none⟩ = some (.slice va k vc) := by simp [World.cell?, R.box]
              have HR := Lib.hid R
              have HM := Lib.hid (And.intro hmul (And.intro hq0 (And.intro hq1 (And.intro h0 (And.intro h1 (And.intro hcd hc))))))
              have hd' : (d : Int) ≤ 100 := by omega
              have hm' : (M : Int) < 4 := hm.2
              clear R hmul hq0 hq1 h0 h1 hcd hc hd hm hn hk hb1 hn3
              obtain ⟨i0, hi, hz0, hz1, hz2⟩ := info_parts infoT
              go_wp2_with (first
                | (go_at_call 42; refine hih.mono ?_; clear hih; rintro e W3 ⟨⟨ck, ca, cl, cc, ckids⟩, q', rfl, hq2, hq3, hc3, hok, hb3⟩; have bx3 := Below.cell_al (.cells #[.int .i64 ck, .slice ca cl cc] 27) ((hb3.cell (p := ⟨w.heap.size + 1, 1, none⟩) (cell_lt b1)).trans b1); have HB3 := Lib.hid hb3; clear hb3; have HC3 := Lib.hid (And.intro hq2 (And.intro hq3 (And.intro hc3 hok))); clear hq2 hq3 hc3 hok; simp only [TT.k, TT.row, TT.a, TT.len, TT.cap])
                | (at_builtin; refine wpList_append_own_at _ rfl _ _ 25 rfl (w.heap.size + 2) 27 i0 (.agg #[.int .i64 0, .slice none 0 0]) 2 32 undT hi hz0 hz1 hz2 rfl (by decide) _ _ _ rfl
                    (ownsRow_kept HR.out.own (fun g _ hg => ((Below.heap_alloc _ _ g (by have := HB3.out.size; simp; omega)).trans (Below.heap_alloc _ _ g (by have := HB3.out.size; omega))).trans (HB3.out.block g hg)) : World.ownsRow ((W3.alloc (.cells #[.int .i64 ck, .slice ca cl cc] 27)).alloc (.cells #[.int .i64 ck, .slice ca cl cc] 27)) _ _ _ _ _ _) ⟨W3.heap.size + 1, 0, none⟩ 1 1 [.int .i64 ck, .slice ca cl cc] rfl rfl ?c1 ?c2 ?c3 ?c4 ?c5 ?_))
              case c1 =>
                intro j u hj
                rcases j with _ | _ | j
                · simp at hj; subst hj; simp [Addr.add, go_sem]
                · simp at hj; subst hj; simp [Addr.add, go_sem]
                · simp at hj
              case c2 => intro u hu; simp at hu; rcases hu with rfl | rfl <;> rfl
              case c3 => unfold maxLen; omega
              case c4 => omega
              case c5 => have := HR.out.bel.size; have := HB3.out.size; have := (Array.getElem?_eq_some_iff.1 HR.out.box).1; simp; omega
              · intro v' W6 hown' hgrow _ hv'
                obtain ⟨va', vc', rfl⟩ := isSlice hown'
                have x6 := HR.out.box6 HB3.out hgrow
                have c6 : W6.cell? ⟨w.heap.size + 1, 1, none⟩ = some (.slice va k vc) := by simp [World.cell?, x6]
                have g6 : W6.frozen? ⟨w.heap.size + 1, 1, none⟩ = false := by simp [World.frozen?, x6]
                have R7 := Lib.hid (HR.out.step (c := .mk ck ca cl cc ckids) HB3.out HC3.out.2.2.1 HC3.out.2.2.2 hown' hgrow (by rw [World.size_alloc, World.size_alloc]; exact hv'))
                clear hown' hgrow hv' x6
                go_wp2
                go_roundw
                case rel =>
                  have hA := HC3.out
                  have hB := HM.out
                  exact ⟨k + 1, q', _, _, by omega, by go_num, rfl, by omega, by rw [show ((k + 1 : Nat) : Int) = (k : Int) + 1 from by omega, Int.add_mul]; omega, R7.out⟩
                case measure => simp [intOf]; omega
            · have b0 : wr.cell? ⟨w.heap.size + 1, 0, none⟩ = some (.int .i64 3) := by simp [World.cell?, R.box]
              have b1 : wr.cell? ⟨w.heap.size + 1, 1, none⟩ = some (.slice va k vc) := by simp [World.cell?, R.box]
              have r0 : wr.cell? ⟨w.heap.size, 0, none⟩ = some (.int .i64 0) := by simp [World.cell?, R.res]
              have r1 : wr.cell? ⟨w.heap.size, 1, none⟩ = some (.slice none 0 0) := by simp [World.cell?, R.res]
              have f0 : wr.frozen? ⟨w.heap.size, 0, none⟩ = false := by simp [World.frozen?, R.res]
              have f1 : wr.frozen? ⟨w.heap.size, 1, none⟩ = false := by simp [World.frozen?, R.res]
              have HR := Lib.hid R
              clear R
              go_wp2
              have hkM : k = M := by omega
              obtain ⟨h1', h2', h3', h4', h5'⟩ := HR.out.fin (by omega) 3
              have hmul : (k : Int) * costT d ≤ 3 * costT d := Int.mul_le_mul_of_nonneg_right (by omega) (by omega)
              refine ⟨rfl, .tuple #[.agg #[.int .i64 3, .slice va k vc], .int .i64 q], ?_, .mk 3 va k vc kids, q, rfl, by omega, by omega, h2', .sum _ _ _ _ _ (by omega) (by omega) h3', h5'⟩
              simp [results, Tryz.f42, go_sem, World.cell?, h1']
      · have e7 : (n == 7) = false := by simp [hn7]
        have e3 : (n == 3) = false := by simp; omega
        go_enter Tryz.func42, Tryz.ntmps42
        go_wp2_with (first | (go_at_call 60; refine hN1.mono ?_; clear hN1; rintro e w' ⟨rfl, rfl⟩) | (go_at_call 60; refine hN2.mono ?_; clear hN2; rintro e w' ⟨rfl, rfl⟩) | (go_at_call 59; refine (hT _).mono ?_; clear hT; rintro e w' ⟨rfl, rfl⟩) | (go_at_call 59; refine (hT2 _).mono ?_; clear hT2; rintro e w' ⟨rfl, rfl⟩))
        go_loopw [1, 11] (fun p i wr => ∃ (k : Nat) (q : Int) (kids : List TT) (v : Value), k ≤ M ∧ i = .int .i64 k ∧ p = .int .i64 q ∧ at_ + 2 ≤ q ∧ q ≤ at_ + 2 + k * costT d ∧ RelT w.heap.size w (d + 1) 2 k v kids wr) (fun _ i _ => M - (intOf i).toNat)
        case atStart =>
          refine ⟨0, _, [], .slice none 0 0, Nat.zero_le _, rfl, rfl, by omega, by omega, ?_⟩
          exact RelT.start _ _ _
        case round =>
          obtain ⟨k, q, kids, v, hk, rfl, rfl, hq0, hq1, R⟩ := hrel
          obtain ⟨va, vc, rfl⟩ := isSlice R.own
          by_cases hlt : k < M
          · have hmul : (k : Int) * costT d ≤ 2 * costT d := Int.mul_le_mul_of_nonneg_right (by omega) (by omega)
            have hih := HI.out q wr (by omega) (by omega) (by omega) (HL.out.bel (R.bel.mono hn)) (by have := R.bel.size; omega)
            rw [show (d : Int) + 1 = (d : Int) + 2 - 1 from by omega] at hih
            have b1 : wr.cell? ⟨w.heap.size + 1, 1, none⟩ = some (.slice va k vc) := by simp [World.cell?, R.box]
            have HR := Lib.hid R
            have HM := Lib.hid (And.intro hmul (And.intro hq0 (And.intro hq1 (And.intro h0 (And.intro h1 (And.intro hcd hc))))))
            have hd' : (d : Int) ≤ 100 := by omega
            have hm' : (M : Int) < 4 := hm.2
            clear R hmul hq0 hq1 h0 h1 hcd hc hd hm hn hk hb1 hnr hn3
            obtain ⟨i0, hi, hz0, hz1, hz2⟩ := info_parts infoT
            go_wp2_with (first
              | (go_at_call 42; refine hih.mono ?_; clear hih; rintro e W3 ⟨⟨ck, ca, cl, cc, ckids⟩, q', rfl, hq2, hq3, hc3, hok, hb3⟩; have bx3 := Below.cell_al (.cells #[.int .i64 ck, .slice ca cl cc] 27) ((hb3.cell (p := ⟨w.heap.size + 1, 1, none⟩) (cell_lt b1)).trans b1); have HB3 := Lib.hid hb3; clear hb3; have HC3 := Lib.hid (And.intro hq2 (And.intro hq3 (And.intro hc3 hok))); clear hq2 hq3 hc3 hok; simp only [TT.k, TT.row, TT.a, TT.len, TT.cap])
              | (at_builtin; refine wpList_append_own_at _ rfl _ _ 25 rfl (w.heap.size + 2) 27 i0 (.agg #[.int .i64 0, .slice none 0 0]) 2 32 undT hi hz0 hz1 hz2 rfl (by decide) _ _ _ rfl
                  (ownsRow_kept HR.out.own (fun g _ hg => ((Below.heap_alloc _ _ g (by have := HB3.out.size; simp; omega)).trans (Below.heap_alloc _ _ g (by have := HB3.out.size; omega))).trans (HB3.out.block g hg)) : World.ownsRow ((W3.alloc (.cells #[.int .i64 ck, .slice ca cl cc] 27)).alloc (.cells #[.int .i64 ck, .slice ca cl cc] 27)) _ _ _ _ _ _) ⟨W3.heap.size + 1, 0, none⟩ 1 1 [.int .i64 ck, .slice ca cl cc] rfl rfl ?c1 ?c2 ?c3 ?c4 ?c5 ?_))
            case c1 =>
              intro j u hj
              rcases j with _ | _ | j
              · simp at hj; subst hj; simp [Addr.add, go_sem]
              · simp at hj; subst hj; simp [Addr.add, go_sem]
              · simp at hj
            case c2 => intro u hu; simp at hu; rcases hu with rfl | rfl <;> rfl
            case c3 => unfold maxLen; omega
            case c4 => omega
            case c5 => have := HR.out.bel.size; have := HB3.out.size; have := (Array.getElem?_eq_some_iff.1 HR.out.box).1; simp; omega
            · intro v' W6 hown' hgrow _ hv'
              obtain ⟨va', vc', rfl⟩ := isSlice hown'
              have x6 := HR.out.box6 HB3.out hgrow
              have c6 : W6.cell? ⟨w.heap.size + 1, 1, none⟩ = some (.slice va k vc) := by simp [World.cell?, x6]
              have g6 : W6.frozen? ⟨w.heap.size + 1, 1, none⟩ = false := by simp [World.frozen?, x6]
              have R7 := Lib.hid (HR.out.step (c := .mk ck ca cl cc ckids) HB3.out HC3.out.2.2.1 HC3.out.2.2.2 hown' hgrow (by rw [World.size_alloc, World.size_alloc]; exact hv'))
              clear hown' hgrow hv' x6
              go_wp2
              go_roundw
              case rel =>
                have hA := HC3.out
                have hB := HM.out
                exact ⟨k + 1, q', _, _, by omega, by go_num, rfl, by omega, by rw [show ((k + 1 : Nat) : Int) = (k : Int) + 1 from by omega, Int.add_mul]; omega, R7.out⟩
              case measure => simp [intOf]; omega
          · have b0 : wr.cell? ⟨w.heap.size + 1, 0, none⟩ = some (.int .i64 2) := by simp [World.cell?, R.box]
            have b1 : wr.cell? ⟨w.heap.size + 1, 1, none⟩ = some (.slice va k vc) := by simp [World.cell?, R.box]
            have r0 : wr.cell? ⟨w.heap.size, 0, none⟩ = some (.int .i64 0) := by simp [World.cell?, R.res]
            have r1 : wr.cell? ⟨w.heap.size, 1, none⟩ = some (.slice none 0 0) := by simp [World.cell?, R.res]
            have f0 : wr.frozen? ⟨w.heap.size, 0, none⟩ = false := by simp [World.frozen?, R.res]
            have f1 : wr.frozen? ⟨w.heap.size, 1, none⟩ = false := by simp [World.frozen?, R.res]
            have HR := Lib.hid R
            clear R
            go_wp2
            have hkM : k = M := by omega
            obtain ⟨h1', h2', h3', h4', h5'⟩ := HR.out.fin (by omega) 2
            have hmul : (k : Int) * costT d ≤ 3 * costT d := Int.mul_le_mul_of_nonneg_right (by omega) (by omega)
            refine ⟨rfl, .tuple #[.agg #[.int .i64 2, .slice va k vc], .int .i64 q], ?_, .mk 2 va k vc kids, q, rfl, by omega, by omega, h2', .tuple _ _ _ _ _ (by omega) h3', h5'⟩
            simp [results, Tryz.f42, go_sem, World.cell?, h1']
end Go.Proofs.YtofboalgbgipoaaGreatDoor
