/- Sizes of values that are put together. -/
import Derived.Test.YtolnkacccdkaoaaGreatDoorValo
import Derived.Deep.RegionHeld3
import Derived.Deep.AppendLies
import Derived.Deep.RegionLaw
import Derived.Deep.Cut
import Derived.Deep.CutRange
import Derived.Deep.DeepCutAuto
import Derived.Deep.LoopGhost
set_option linter.all false
namespace Go.Proofs.YtolnkacccdkaoaaGreatDoor
open Go.RowKit Go.Shelf
attribute [local go_sem] Oper.semAt_some

theorem Tag_V (n : Int) (T : LT) (S : Nat → Prop) (w : World) (hS : ∀ b, S b → b < w.heap.size) (hT : IsV S w T) :
    Calls Tryz.prog 44 #[.int .i64 n, T.node.val] w fun e w' => e = .returned (LT.tag n (w.heap.size + 2) T).node.val ∧ w'.heap.size = w.heap.size + 3 ∧ Below w.heap.size w w' ∧ IsV (fun b => S b ∨ b = w.heap.size + 2) w' (LT.tag n (w.heap.size + 2) T) := by
  refine (Tag_raw n T.node w).mono ?_
  rintro e w' ⟨rfl, hs, hb, h0, h1, h2, h3⟩
  refine ⟨rfl, hs, hb, .mk _ _ rfl (by simp [maxLen]) (by simp) (fun i c hi => ?_) (fun c hc => ?_)⟩
  · rcases i with _ | i
    · simp at hi
      subst hi
      exact ⟨_, rfl, .inr rfl, by simpa using h0, by simpa using h1, by simpa using h2, by simpa using h3⟩
    · simp at hi
  · rw [List.mem_singleton.1 hc]
    exact hT.kept (fun b hb => .inl hb) (fun b hSb hlt => hb.block b hlt)
theorem OkV.tag {T : LT} (h : OkV T) (n : Int) (h0 : 0 ≤ n) (h8 : n < 8) (b : Nat) : OkV (LT.tag n b T) :=
  .mk _ _ (by simp [okNode]; omega) (by simp) (by simp) (fun c hc => by rw [List.mem_singleton.1 hc]; exact h)
theorem LT.tag_ht (n : Int) (b : Nat) (T : LT) : (LT.tag n b T).ht = T.ht + 1 := by simp [LT.tag, LT.ht, LT.htL]
theorem LT.tag_cnt (n : Int) (b : Nat) (T : LT) : (LT.tag n b T).cnt = T.cnt + 1 := by simp [LT.tag, LT.cnt, LT.cntL]
/-- Behind 'next := Tag(.., v)': next's box is block B, its row block g. -/
def Cut10 (vb : Nat) (tg : Int) (V : LT) (W6 wc : World) (B g : Nat) : Prop :=
  W6.heap.size ≤ B ∧ B < wc.heap.size ∧ wc.heap[B]? = some (.cells #[.int .i64 3, .int .i64 tg, .string ByteArray.empty, .slice (some ⟨g, 0, none⟩) 1 1] 24 (0, 0)) ∧ Below W6.heap.size W6 wc ∧ IsV (fun b => b < wc.heap.size ∧ b ≠ vb) wc (LT.tag tg g V)
theorem reg10a {vb n : Nat} {tg : Int} {V : LT} {W6 W W7 : World} (hv : vb + 1 ≤ n) (hn : n ≤ W6.heap.size) (hW : Below W6.heap.size W6 W) (h7 : W7.heap.size = W.heap.size + 3 ∧ Below W.heap.size W W7 ∧ IsV (fun b => (b < n ∧ b ≠ vb) ∨ b = W.heap.size + 2) W7 (LT.tag tg (W.heap.size + 2) V)) :
    Cut10 vb tg V W6 (W7.alloc (.cells #[.int .i64 3, .int .i64 tg, .string ByteArray.empty, .slice (some ⟨W.heap.size + 2, 0, none⟩) 1 1] 24)) W7.heap.size (W.heap.size + 2) := by
  obtain ⟨h1, h2, h3⟩ := h7
  have hs := hW.size
  have hb : Below W6.heap.size W6 W7 := hW.trans (h2.mono hs)
  exact ⟨by omega, by simp, World.alloc_heap_new W7 _, hb.alloc (by omega) _, h3.kept (fun b hb => by simp only [World.size_alloc]; omega) (fun b _ hl => Below.heap_alloc W7 _ b hl)⟩
theorem reg10b {vb n : Nat} {tg : Int} {V : LT} {W6 W7 : World} (W : World) (g : Nat) {c0 c1 c2 c3 : Value} (hg : W.heap.size + 2 = g) (hv : vb + 1 ≤ n) (hn : n ≤ W6.heap.size) (hW : Below W6.heap.size W6 W) (hz : W.heap[W6.heap.size]? = some (.cells #[c0, c1, c2, c3] 24 (0, 0)))
    (h7 : W7.heap.size = W.heap.size + 3 ∧ Below W.heap.size W W7 ∧ IsV (fun b => (b < n ∧ b ≠ vb) ∨ b = W.heap.size + 2) W7 (LT.tag tg (W.heap.size + 2) V)) :
    Cut10 vb tg V W6 ((((W7.setCell ⟨W6.heap.size, 0, none⟩ (.int .i64 3)).setCell ⟨W6.heap.size, 1, none⟩ (.int .i64 tg)).setCell ⟨W6.heap.size, 2, none⟩ (.string ByteArray.empty)).setCell ⟨W6.heap.size, 3, none⟩ (.slice (some ⟨g, 0, none⟩) 1 1)) W6.heap.size g := by
  subst hg
  obtain ⟨h1, h2, h3⟩ := h7
  have hlt := (Array.getElem?_eq_some_iff.1 hz).1
  have hs := hW.size
  have hb : Below W6.heap.size W6 W7 := hW.trans (h2.mono hs)
  have hz7 := (h2.block _ hlt).trans hz
  exact ⟨Nat.le_refl _, by rw [size4]; omega, setAll4 hz7, below4 hb (Nat.le_refl _), h3.kept (fun b hb => by rw [size4]; omega) (fun b hb _ => heap4 (by omega))⟩
theorem size_alloc2 (W : World) (o : Obj) : (W.alloc o).drew.heap.size + 2 = W.heap.size + 1 + 2 := by show (W.alloc o).heap.size + 2 = _; rw [World.size_alloc]
/-- Behind 'if n > 1 {..}': next's box is block B and holds N. -/
structure TailR (W6 : World) (B vb : Nat) (N : LT) (W : World) : Prop where
  box : W.heap[B]? = some (.cells #[.int .i64 N.node.k, .int .i64 N.node.n, .string N.node.s, .slice N.node.a N.node.len N.node.cap] 24 (0, 0))
  bel : Below W6.heap.size W6 W
  v : IsV (fun b => b < W.heap.size ∧ b ≠ vb) W N
  ok : OkV N
  ht : N.ht ≤ 7
  cnt : N.cnt ≤ 300
  hB : W6.heap.size ≤ B
  lt : B < W.heap.size
theorem TailR.keep {W6 : World} {B vb : Nat} {N : LT} {W W' : World} (h : TailR W6 B vb N W) (hb : Below W.heap.size W W') : TailR W6 B vb N W' :=
  ⟨(hb.block _ h.lt).trans h.box, h.bel.trans (hb.mono h.bel.size), h.v.kept (fun b hb' => ⟨Nat.lt_of_lt_of_le hb'.1 hb.size, hb'.2⟩) (fun b _ hl => hb.block b hl), h.ok, h.ht, h.cnt, h.hB, Nat.lt_of_lt_of_le h.lt hb.size⟩
/-- What holds in the loop: the row of three values is block b + 1, the value's box block b + 2. -/
structure RelS (W3 : World) (x y z V : LT) (W : World) : Prop where
  arr : W.heap[W3.heap.size + 1]? = some (.cells (cells12 x.node y.node z.node) 49 (0, 0))
  box : W.heap[W3.heap.size + 2]? = some (.cells #[.int .i64 V.node.k, .int .i64 V.node.n, .string V.node.s, .slice V.node.a V.node.len V.node.cap] 24 (0, 0))
  bel : Below W3.heap.size W3 W
  siz : W3.heap.size + 3 ≤ W.heap.size
  v : IsV (fun b => b < W.heap.size ∧ b ≠ W3.heap.size + 2) W V
  ok : OkV V
  ht : V.ht ≤ 6
  cnt : V.cnt ≤ 60
theorem RelS.keep {W3 : World} {x y z V : LT} {W W' : World} (h : RelS W3 x y z V W) (hb : Below W.heap.size W W') : RelS W3 x y z V W' := by
  have h1 := h.siz
  have h2 := hb.size
  exact ⟨(hb.block _ (by omega)).trans h.arr, (hb.block _ (by omega)).trans h.box, h.bel.trans (hb.mono (by omega)), by omega, h.v.kept (fun b hb' => ⟨by omega, hb'.2⟩) (fun b hb' hl => hb.block b hl), h.ok, h.ht, h.cnt⟩

/-- What holds in the loop that puts more values into next, whose box is block B. -/
structure RelN (W6 : World) (B vb : Nat) (vs : List LT) (va : Option Addr) (vc : Nat) (W : World) : Prop where
  own : W.ownsRow (B + 1) 24 4 (.slice va vs.length vc) vs.length (cellsV vs)
  box : W.heap[B]? = some (.cells #[.int .i64 2, .int .i64 0, .string ByteArray.empty, .slice va vs.length vc] 24 (0, 0))
  bel : Below W6.heap.size W6 W
  hB : W6.heap.size ≤ B
  lt : B < W.heap.size
  kids : ∀ c ∈ vs, IsV (fun b => b < W6.heap.size ∧ b ≠ vb) W6 c ∧ OkV c
theorem RelN.keep {W6 : World} {B vb : Nat} {vs : List LT} {va : Option Addr} {vc : Nat} {W W' : World} (h : RelN W6 B vb vs va vc W) (hb : Below W.heap.size W W') : RelN W6 B vb vs va vc W' :=
  ⟨ownsRow_kept h.own (fun g _ hl => hb.block g hl), (hb.block _ h.lt).trans h.box, h.bel.trans (hb.mono h.bel.size), h.hB, Nat.lt_of_lt_of_le h.lt hb.size, h.kids⟩
theorem RelN.step {W6 : World} {B vb : Nat} {vs : List LT} {va : Option Addr} {vc : Nat} {W Wa w1 : World} {g cap : Nat} {c : LT} {k2 : Nat} (h : RelN W6 B vb vs va vc W) (hk : vs.length = k2) (ha : Below W.heap.size W Wa) (hg : Wa.grownBy w1 (Value.slice va k2 vc).ownBlock)
    (ho : w1.ownsRow (B + 1) 24 4 (.slice (some ⟨g, 0, none⟩) (k2 + 1) cap) (k2 + 1) (cellsV vs ++ nodeCells c.node)) (hc : IsV (fun b => b < W6.heap.size ∧ b ≠ vb) W6 c ∧ OkV c) :
    RelN W6 B vb (vs ++ [c]) (some ⟨g, 0, none⟩) cap (w1.setCell ⟨B, 3, none⟩ (.slice (some ⟨g, 0, none⟩) (k2 + 1) cap)) := by
  subst hk
  have hge := ownBlock_ge h.own
  have h1 := h.lt
  have h2 := ha.size
  have h3 := hg.size
  have h4 := h.hB
  have hlen : (vs ++ [c]).length = vs.length + 1 := by simp
  have hbox : w1.heap[B]? = some (.cells #[.int .i64 2, .int .i64 0, .string ByteArray.empty, .slice va vs.length vc] 24 (0, 0)) :=
    (hg.block B (by omega) (fun e => by have := hge B e.symm; omega)).trans ((ha.block B h1).trans h.box)
  refine ⟨?_, ?_, ?_, h4, ?_, ?_⟩
  · rw [hlen, cellsV_snoc]
    exact ownsRow_kept ho (fun j hj _ => Below.heap_setCell _ _ _ j (by show j ≠ B; omega))
  · rw [hlen]; exact setFourth hbox
  · refine (h.bel.trans ?_).setCell (p := ⟨B, 3, none⟩) h4 _
    exact (ha.mono h.bel.size).grown hg (by have := h.bel.size; omega) (fun j e => by have := hge j e; omega)
  · show B < (w1.setCell _ _).heap.size
    simp [World.setCell]; omega
  · intro c' hc'
    rcases List.mem_append.1 hc' with hc' | hc'
    · exact h.kids c' hc'
    · rw [List.mem_singleton.1 hc']; exact hc
theorem RelN.start {W6 wc W8 : World} {B vb : Nat} {V : LT} {a0 a1 a2 a3 : Value} (hb : Below W6.heap.size W6 wc) (hB : W6.heap.size ≤ B) (hbox : wc.heap[B]? = some (.cells #[a0, a1, a2, a3] 24 (0, 0)))
    (h8 : Below (wc.alloc (.cells #[.int .i64 V.node.k, .int .i64 V.node.n, .string V.node.s, .slice V.node.a V.node.len V.node.cap] 24)).heap.size (wc.alloc (.cells #[.int .i64 V.node.k, .int .i64 V.node.n, .string V.node.s, .slice V.node.a V.node.len V.node.cap] 24)) W8)
    (hV : IsV (fun b => b < W6.heap.size ∧ b ≠ vb) W6 V ∧ OkV V) :
    RelN W6 B vb [V] (some ⟨wc.heap.size, 0, none⟩) 1 ((((W8.setCell ⟨B, 0, none⟩ (.int .i64 2)).setCell ⟨B, 1, none⟩ (.int .i64 0)).setCell ⟨B, 2, none⟩ (.string ByteArray.empty)).setCell ⟨B, 3, none⟩ (.slice (some ⟨wc.heap.size, 0, none⟩) 1 1)) := by
  have hlt := (Array.getElem?_eq_some_iff.1 hbox).1
  have hs8 := h8.size
  simp only [World.size_alloc] at hs8
  have hbw : Below wc.heap.size wc W8 := ((Below.refl _ wc).alloc (Nat.le_refl _) _).trans (h8.mono (by simp))
  have hrow := (h8.block wc.heap.size (by simp)).trans (World.alloc_heap_new wc _)
  refine ⟨⟨by simp [cellsV, nodeCells], .inr ⟨wc.heap.size, 1, _, rfl, by omega, (heap4 (by omega)).trans hrow, by simp, by simp [maxLen], rfl, by simp [cellsV, nodeCells]⟩⟩, setAll4 ((hbw.block B hlt).trans hbox), below4 (hb.trans (hbw.mono hb.size)) hB, hB, by rw [size4]; omega, fun c hc => by rw [List.mem_singleton.1 hc]; exact hV⟩
theorem RelN.tail {W6 : World} {B vb : Nat} {vs : List LT} {va : Option Addr} {vc : Nat} {W : World} (h : RelN W6 B vb vs va vc W) (hvb : vb < W6.heap.size) (hl : vs.length ≤ 8) (hh : LT.htL vs ≤ 6) (hc : LT.cntL vs ≤ 299) :
    TailR W6 B vb (.mk ⟨2, 0, ByteArray.empty, va, vs.length, vc⟩ vs) W := by
  have hB := h.hB
  have hs := h.bel.size
  refine ⟨h.box, h.bel, .mk _ _ rfl (by simp [maxLen]) (by show vs.length * 32 ≤ _; omega) (fun i c hi => ?_) (fun c hc => (h.kids c hc).1.kept (fun b hb => ⟨by omega, hb.2⟩) (fun b hb _ => h.bel.block b hb.1)), .mk _ _ (by simp [okNode]; omega) (by simp) hl (fun c hc => (h.kids c hc).2), by simp only [LT.ht]; omega, by simp only [LT.cnt]; omega, hB, h.lt⟩
  have hil : i < vs.length := (List.getElem?_eq_some_iff.1 hi).1
  rcases h.own.2 with ⟨_, hn⟩ | ⟨g, cap, cur, hv, hg, hh, _, _, _, htk⟩
  · omega
  · cases hv
    obtain ⟨h0, h1, h2, h3⟩ := cellsV_at hi
    rw [← htk, List.getElem?_take] at h0 h1 h2 h3
    rw [if_pos (by omega)] at h0 h1 h2 h3
    exact ⟨g, rfl, ⟨(Array.getElem?_eq_some_iff.1 hh).1, by omega⟩, by simpa [World.cell?, hh] using h0, by simpa [World.cell?, hh] using h1, by simpa [World.cell?, hh] using h2, by simpa [World.cell?, hh] using h3⟩
theorem LT.htL_snoc (l : List LT) (c : LT) : LT.htL (l ++ [c]) = max (LT.htL l) c.ht := by
  induction l with
  | nil => simp [LT.htL]
  | cons t l ih => simp only [List.cons_append, LT.htL, ih]; omega
theorem LT.cntL_snoc (l : List LT) (c : LT) : LT.cntL (l ++ [c]) = LT.cntL l + c.cnt := by
  induction l with
  | nil => simp [LT.cntL]
  | cons t l ih => simp only [List.cons_append, LT.cntL, ih]; omega
theorem RelS.next {W3 : World} {x y z V N : LT} {W6 W' : World} {B : Nat} (h : RelS W3 x y z V W6) (t : TailR W6 B (W3.heap.size + 2) N W') (hh : N.ht ≤ 6) (hc : N.cnt ≤ 60) :
    RelS W3 x y z N ((((W'.setCell ⟨W3.heap.size + 2, 0, none⟩ (.int .i64 N.node.k)).setCell ⟨W3.heap.size + 2, 1, none⟩ (.int .i64 N.node.n)).setCell ⟨W3.heap.size + 2, 2, none⟩ (.string N.node.s)).setCell ⟨W3.heap.size + 2, 3, none⟩ (.slice N.node.a N.node.len N.node.cap)) := by
  have h1 := h.siz
  have h2 := t.bel.size
  have hk := h.keep t.bel
  exact ⟨(heap4 (by omega)).trans hk.arr, setAll4 hk.box, below4 hk.bel (by omega), by rw [size4]; exact hk.siz, t.v.kept (fun b hb => by rw [size4]; exact hb) (fun b hb _ => heap4 hb.2), t.ok, hh, hc⟩
set_option maxRecDepth 100000 in
set_option maxHeartbeats 4000000 in
theorem Sizes_any (n₀ : Nat) (a : Option Addr) (len cap : Nat) (l : List Int) (a2 : Option Addr) (len2 cap2 : Nat) (l2 : List Int) (w : World) (hl : IsInts n₀ w a len l) (hl2 : IsInts n₀ w a2 len2 l2) (hn : n₀ ≤ w.heap.size)
    (hv : ∀ W, Below w.heap.size w W → Calls Tryz.prog 24 #[] W fun e W' => e = .returned (.bool true) ∧ Below W.heap.size W W') :
    Calls Tryz.prog 11 #[.slice a len cap, .slice a2 len2 cap2] w fun e w' => e = .returned (.bool true) ∧ Below w.heap.size w w' := by
  have h3 := three_any n₀ a len cap l w hl hn
  have h3' : Calls Tryz.prog 40 #[.slice a len cap] w fun e W3 => ∃ (T : TT) (x y z : LT), e = .returned (.tuple #[.agg #[.int .i64 T.k, .slice T.a T.len T.cap], .agg #[.int .i64 x.node.k, .int .i64 x.node.n, .string x.node.s, .slice x.node.a x.node.len x.node.cap, .int .i64 y.node.k, .int .i64 y.node.n, .string y.node.s, .slice y.node.a y.node.len y.node.cap, .int .i64 z.node.k, .int .i64 z.node.n, .string z.node.s, .slice z.node.a z.node.len z.node.cap]]) ∧
      Hid ((∀ V ∈ [x, y, z], IsV (fun b => w.heap.size ≤ b ∧ b < W3.heap.size) W3 V ∧ Fine 3 V) ∧ Below w.heap.size w W3) := h3.mono fun e W3 ⟨T, x, y, z, he, _, h1, _, h2⟩ => ⟨T, x, y, z, he, Lib.hid ⟨h1, h2⟩⟩
  have HL := Lib.hid hl2
  have HV := Lib.hid hv
  have hlen2 := hl2.1
  have hlm := hl2.2.1
  have hl63 : (len2 : Int) ≤ 140737488355328 := by omega
  have HLL := Lib.hid (And.intro hlen2 hlm)
  clear h3 hl hl2 hv hlen2 hlm
  go_enter Tryz.func11, Tryz.ntmps11
  go_wp2_with (first
    | (go_at_call 40; refine h3'.mono ?_; clear h3'; rintro e W3 ⟨T, x, y, z, rfl, H3⟩; have hD := fun W (hb : Below W3.heap.size W3 W) => depth_any 3 x (H3.out.1 x (by simp)).2.2.1 (by omega) W3.heap.size W ((H3.out.1 x (by simp)).1.isT (fun b h => h.2) |>.bel hb) hb.size)
    | (go_at_call 43; refine (hD _ ((((Below.refl _ W3).alloc (Nat.le_refl _) _).alloc (by simp) _).alloc (by simp; omega) _)).mono ?_; clear hD; rintro e W5 ⟨rfl, hb5⟩; have H5 := Lib.hid hb5; clear hb5))
  have hR0 : RelS W3 x y z x W5 := by
    have h5 := H5.out
    have hs5 := h5.size
    simp only [World.size_alloc] at hs5
    have hx := H3.out.1 x (by simp)
    refine ⟨(h5.block _ (by simp)).trans ?_, (h5.block _ (by simp)).trans ?_, ((((Below.refl _ W3).alloc (Nat.le_refl _) _).alloc (by simp) _).alloc (by simp; omega) _).trans (h5.mono (by simp; omega)), by omega, hx.1.kept (fun b hb => by omega) (fun b hb hlt => (((((Below.refl _ W3).alloc (Nat.le_refl _) _).alloc (by simp) _).alloc (by simp; omega) _).trans (h5.mono (by simp; omega))).block b hlt), hx.2.1, by have := hx.2.2.1; omega, by have := hx.2.2.2; simp [costM] at this; omega⟩
    · refine (Below.heap_alloc _ _ _ (by simp)).trans ?_
      have := World.alloc_heap_new (W3.alloc (.cells #[.int .i64 T.k, .slice T.a T.len T.cap] 27)) (.cells (cells12 x.node y.node z.node) 49)
      rw [World.size_alloc] at this
      exact this
    · have := World.alloc_heap_new ((W3.alloc (.cells #[.int .i64 T.k, .slice T.a T.len T.cap] 27)).alloc (.cells (cells12 x.node y.node z.node) 49)) (.cells #[.int .i64 x.node.k, .int .i64 x.node.n, .string x.node.s, .slice x.node.a x.node.len x.node.cap] 24)
      rw [World.size_alloc, World.size_alloc] at this
      exact this
  have HR0 := Lib.hid hR0
  clear hR0 H5
  rw [show W3.heap.size + 1 + 1 = W3.heap.size + 2 from rfl]
  go_loopg [8, 10] (12 : Nat) (fun g d i wr => ∃ (k : Nat) (V : LT), g = 12 - k ∧ k ≤ 12 ∧ i = .int .i64 k ∧ d = .int .i64 V.ht ∧ RelS W3 x y z V wr)
  case atStart => exact ⟨0, x, rfl, by omega, rfl, rfl, HR0.out⟩
  case round =>
    clear HR0
    obtain ⟨k, V, rfl, hk, rfl, rfl, R⟩ := hrel
    by_cases h1 : k < len2
    · by_cases h2 : k < 12
      · obtain ⟨h, hh⟩ : ∃ h, l2[k]? = some h := ⟨l2[k]'(by have := HLL.out.1; omega), by simp⟩
        obtain ⟨hb, ho, rfl, hbn, hcell⟩ := HL.out.2.2 k h hh
        have hbw : Below w.heap.size w wr := H3.out.2.trans (R.bel.mono H3.out.2.size)
        have hcw := (hbw.cell (p := ⟨hb, ho + k, none⟩) (by show hb < _; omega)).trans hcell
        have hbr : hb < wr.heap.size := cell_lt hcw
        have hSz := Size_ok V R.ok (by have := R.ht; omega) wr (R.v.isT (fun b h => h.1))
        rw [OkV.size R.ok R.ht R.cnt, if_neg (by have := V.cnt_pos; omega)] at hSz
        have hTag := fun W (hW : Below wr.heap.size wr W) (tg : Int) => Tag_V tg V (fun b => b < wr.heap.size ∧ b ≠ W3.heap.size + 2) W (fun b h => by have := hW.size; omega) (R.v.kept (fun _ h => h) (fun b hb' hlt => hW.block b hlt))
        have hT8 := fun W => Turn_any h 8 (by omega) (by omega) W
        have ht8 := turnF_lt h (m := 8) (by omega)
        have hT5 := fun W => Turn_any h 5 (by omega) (by omega) W
        have ht5 := turnF_lt h (m := 5) (by omega)
        obtain ⟨tg, htg⟩ : ∃ t, turnF h 8 = t := ⟨_, rfl⟩
        obtain ⟨n, hn5⟩ : ∃ t, turnF h 5 = t := ⟨_, rfl⟩
        rw [htg] at hT8 ht8
        rw [hn5] at hT5 ht5
        replace hTag := fun W hW => hTag W hW tg
        have hc60 := R.cnt
        have hd6 := R.ht
        have hc1 := V.cnt_pos
        have HVt := Lib.hid (And.intro (LT.tag_ht tg · V) (And.intro (LT.tag_cnt tg · V) (R.ok.tag tg ht8.1 ht8.2)))
        have HR := Lib.hid R
        have b0 : wr.cell? ⟨W3.heap.size + 2, 0, none⟩ = some (.int .i64 V.node.k) := by simp [World.cell?, R.box]
        have b1 : wr.cell? ⟨W3.heap.size + 2, 1, none⟩ = some (.int .i64 V.node.n) := by simp [World.cell?, R.box]
        have b2 : wr.cell? ⟨W3.heap.size + 2, 2, none⟩ = some (.string V.node.s) := by simp [World.cell?, R.box]
        have b3 : wr.cell? ⟨W3.heap.size + 2, 3, none⟩ = some (.slice V.node.a V.node.len V.node.cap) := by simp [World.cell?, R.box]
        obtain ⟨c, hcc⟩ : ∃ c, V.cnt = c := ⟨_, rfl⟩
        obtain ⟨d, hdd⟩ : ∃ d, V.ht = d := ⟨_, rfl⟩
        rw [hcc] at hSz hc60 hc1
        rw [hdd] at hd6 ⊢
        obtain ⟨⟨vk, vn, vs, va, vl, vc⟩, vkids⟩ := V
        simp only [LT.node] at b0 b1 b2 b3
        dsimp only [LT.node, Node.val] at hSz
        have HTg : Hid (∀ W, Below wr.heap.size wr W → Calls Tryz.prog 44 #[.int .i64 tg, .agg #[.int .i64 vk, .int .i64 vn, .string vs, .slice va vl vc]] W fun e w' => e = .returned (.agg #[.int .i64 3, .int .i64 tg, .string ByteArray.empty, .slice (some ⟨W.heap.size + 2, 0, none⟩) 1 1]) ∧
          Hid (w'.heap.size = W.heap.size + 3 ∧ Below W.heap.size W w' ∧ IsV (fun b => (b < wr.heap.size ∧ b ≠ W3.heap.size + 2) ∨ b = W.heap.size + 2) w' (LT.tag tg (W.heap.size + 2) (.mk ⟨vk, vn, vs, va, vl, vc⟩ vkids)))) := Lib.hid fun W hW => (hTag W hW).mono fun e w' h => ⟨h.1, Lib.hid h.2⟩
        have HH := Lib.hid hbw
        have HC := Lib.hid (And.intro hcc hdd)
        clear R hTag hh hcell hbw hcc hdd hn5 htg hbn
        go_upto_region 10 with (first
          | (go_at_call 13; refine hSz.mono ?_; clear hSz; rintro e W6 ⟨rfl, hb6⟩; have H6 := Lib.hid hb6; have k6 : ∀ {b o : Nat} {v : Value}, wr.cell? ⟨b, o, none⟩ = some v → W6.cell? ⟨b, o, none⟩ = some v := (fun {b o v} h => (hb6.cell (p := ⟨b, o, none⟩) (cell_lt h)).trans h); have hcw := k6 hcw; have b0 := k6 b0; have b1 := k6 b1; have b2 := k6 b2; have b3 := k6 b3; have ne1 := World.new_ne W6 _ hcw; have ne2 := World.new_ne W6 _ b0; clear k6 hb6))
        go_cut [13] (fun s13 wc => ∃ (B g : Nat), s13 = .pointer (some ⟨B, 0, none⟩) ∧ Hid (Cut10 (W3.heap.size + 2) tg (.mk ⟨vk, vn, vs, va, vl, vc⟩ vkids) W6 wc B g))
        case first =>
          have hS6 := HR.out.siz
          have hb6 := H6.out
          have hs6 := hb6.size
          have hTg : ∀ W, Below W6.heap.size W6 W → Calls Tryz.prog 44 #[.int .i64 tg, .agg #[.int .i64 vk, .int .i64 vn, .string vs, .slice va vl vc]] W fun e w' => e = .returned (.agg #[.int .i64 3, .int .i64 tg, .string ByteArray.empty, .slice (some ⟨W.heap.size + 2, 0, none⟩) 1 1]) ∧
              Hid (w'.heap.size = W.heap.size + 3 ∧ Below W.heap.size W w' ∧ IsV (fun b => (b < wr.heap.size ∧ b ≠ W3.heap.size + 2) ∨ b = W.heap.size + 2) w' (LT.tag tg (W.heap.size + 2) (.mk ⟨vk, vn, vs, va, vl, vc⟩ vkids))) ∧
              w'.cell? ⟨hb, ho + k, none⟩ = some (.int .i64 h) ∧ w'.cell? ⟨W3.heap.size + 2, 0, none⟩ = some (.int .i64 vk) ∧ w'.cell? ⟨W3.heap.size + 2, 1, none⟩ = some (.int .i64 vn) ∧ w'.cell? ⟨W3.heap.size + 2, 2, none⟩ = some (.string vs) ∧ w'.cell? ⟨W3.heap.size + 2, 3, none⟩ = some (.slice va vl vc) ∧
              Hid (∀ B0 c0 c1 c2 c3, W.heap[B0]? = some (.cells #[c0, c1, c2, c3] 24 (0, 0)) → (w'.cell? ⟨B0, 0, none⟩ = some c0 ∧ w'.cell? ⟨B0, 1, none⟩ = some c1 ∧ w'.cell? ⟨B0, 2, none⟩ = some c2 ∧ w'.cell? ⟨B0, 3, none⟩ = some c3) ∧ (w'.frozen? ⟨B0, 0, none⟩ = false ∧ w'.frozen? ⟨B0, 1, none⟩ = false ∧ w'.frozen? ⟨B0, 2, none⟩ = false ∧ w'.frozen? ⟨B0, 3, none⟩ = false)) := by
            intro W hW
            refine (HTg.out W (hb6.trans (hW.mono hs6))).mono ?_
            rintro e w' ⟨he, h2⟩
            have hk : ∀ {b o : Nat} {v : Value}, W6.cell? ⟨b, o, none⟩ = some v → w'.cell? ⟨b, o, none⟩ = some v := fun {b o v} hc => by
              have hlt := cell_lt hc
              exact (h2.out.2.1.cell (p := ⟨b, o, none⟩) (Nat.lt_of_lt_of_le hlt hW.size)).trans ((hW.cell (p := ⟨b, o, none⟩) hlt).trans hc)
            exact ⟨he, h2, hk hcw, hk b0, hk b1, hk b2, hk b3, Lib.hid fun B0 c0 c1 c2 c3 hB0 => cells4 ((h2.out.2.1.block B0 (Array.getElem?_eq_some_iff.1 hB0).1).trans hB0)⟩
          have HTg' := Lib.hid hTg
          have HTg2 : Hid (∀ W, Below W6.heap.size W6 W → W.heap[W6.heap.size]? = some (.cells #[.int .i64 0, .int .i64 0, .string ByteArray.empty, .slice none 0 0] 24 (0, 0)) → Calls Tryz.prog 44 #[.int .i64 tg, .agg #[.int .i64 vk, .int .i64 vn, .string vs, .slice va vl vc]] W fun e w' => e = .returned (.agg #[.int .i64 3, .int .i64 tg, .string ByteArray.empty, .slice (some ⟨W.heap.size + 2, 0, none⟩) 1 1]) ∧
              Hid (w'.heap.size = W.heap.size + 3 ∧ Below W.heap.size W w' ∧ IsV (fun b => (b < wr.heap.size ∧ b ≠ W3.heap.size + 2) ∨ b = W.heap.size + 2) w' (LT.tag tg (W.heap.size + 2) (.mk ⟨vk, vn, vs, va, vl, vc⟩ vkids))) ∧
              w'.cell? ⟨hb, ho + k, none⟩ = some (.int .i64 h) ∧ w'.cell? ⟨W3.heap.size + 2, 0, none⟩ = some (.int .i64 vk) ∧ w'.cell? ⟨W3.heap.size + 2, 1, none⟩ = some (.int .i64 vn) ∧ w'.cell? ⟨W3.heap.size + 2, 2, none⟩ = some (.string vs) ∧ w'.cell? ⟨W3.heap.size + 2, 3, none⟩ = some (.slice va vl vc) ∧
              (w'.cell? ⟨W6.heap.size, 0, none⟩ = some (.int .i64 0) ∧ w'.cell? ⟨W6.heap.size, 1, none⟩ = some (.int .i64 0) ∧ w'.cell? ⟨W6.heap.size, 2, none⟩ = some (.string ByteArray.empty) ∧ w'.cell? ⟨W6.heap.size, 3, none⟩ = some (.slice none 0 0)) ∧ (w'.frozen? ⟨W6.heap.size, 0, none⟩ = false ∧ w'.frozen? ⟨W6.heap.size, 1, none⟩ = false ∧ w'.frozen? ⟨W6.heap.size, 2, none⟩ = false ∧ w'.frozen? ⟨W6.heap.size, 3, none⟩ = false)) :=
            Lib.hid fun W hW hz => (hTg W hW).mono fun e w' ⟨h0, h1, h2, h3, h4, h5, h6, h7⟩ => ⟨h0, h1, h2, h3, h4, h5, h6, h7.out _ _ _ _ _ hz⟩
          clear hTg hb6 hs6 hS6
          go_region_held3 (fun w' => w'.cell? ⟨hb, ho + k, none⟩ = some (.int .i64 h) ∧ w'.cell? ⟨W3.heap.size + 2, 0, none⟩ = some (.int .i64 vk) ∧ w'.cell? ⟨W3.heap.size + 2, 1, none⟩ = some (.int .i64 vn) ∧ w'.cell? ⟨W3.heap.size + 2, 2, none⟩ = some (.string vs) ∧ w'.cell? ⟨W3.heap.size + 2, 3, none⟩ = some (.slice va vl vc))
            (go_keep)
            (first
              | (go_at_call 45; refine (hT8 _).mono ?_; rintro e w' ⟨rfl, rfl⟩)
              | (go_at_call 44; refine (HTg'.out _ ?_).mono ?_; (first | exact Below.refl _ _ | exact (Below.refl _ _).drew); rintro e W7 ⟨rfl, H7, q0, q1, q2, q3, q4, _⟩; have ne3 := World.new_ne W7 _ q0; have ne4 := World.new_ne W7 _ q1)
              | (go_at_call 44; refine (HTg2.out _ ?_ ?_).mono ?_; (first | exact (Below.refl _ _).alloc (Nat.le_refl _) _ | exact ((Below.refl _ _).alloc (Nat.le_refl _) _).drew | exact ((Below.refl _ _).drew).alloc (Nat.le_refl _) _); exact World.alloc_heap_new W6 (.cells #[.int .i64 0, .int .i64 0, .string ByteArray.empty, .slice none 0 0] 24); rintro e W7 ⟨rfl, H7, q0, q1, q2, q3, q4, ⟨z0, z1, z2, z3⟩, y0, y1, y2, y3⟩; have ne3 := World.new_ne W7 _ q0; have ne4 := World.new_ne W7 _ q1))
          all_goals (go_step; go_step; go_meet)
          · exact ⟨W7.heap.size, W6.heap.size + 2, rfl, Lib.hid (reg10a (W := W6.drew) HR.out.siz H6.out.size (Below.refl _ _).drew H7.out)⟩
          · exact ⟨W6.heap.size, W6.heap.size + 1 + 2, rfl, Lib.hid (reg10b _ _ (size_alloc2 W6 (.cells #[.int .i64 0, .int .i64 0, .string ByteArray.empty, .slice none 0 0] 24)) HR.out.siz H6.out.size ((Below.refl _ _).alloc (Nat.le_refl _) _).drew (World.alloc_heap_new W6 _) H7.out)⟩
          · exact ⟨W6.heap.size, W6.heap.size + 1 + 2, rfl, Lib.hid (reg10b _ _ (size_alloc2 W6 (.cells #[.int .i64 0, .int .i64 0, .string ByteArray.empty, .slice none 0 0] 24)) HR.out.siz H6.out.size ((Below.refl _ _).alloc (Nat.le_refl _) _).drew (World.alloc_heap_new W6 _) H7.out)⟩
        case rest =>
          obtain ⟨B, g, rfl, HB⟩ := hcut
          have hB := HB.out
          have hsz := HR.out.siz
          have hs6 := H6.out.size
          obtain ⟨hB0, hB1, hB2, hB3, hB4⟩ := hB
          obtain ⟨⟨e0, e1, e2, e3⟩, g0, g1, g2, g3⟩ := cells4 hB2
          have hcw' := (hB3.cell (p := ⟨hb, ho + k, none⟩) (cell_lt hcw)).trans hcw
          have v0 := (hB3.cell (p := ⟨W3.heap.size + 2, 0, none⟩) (cell_lt b0)).trans b0
          have v1 := (hB3.cell (p := ⟨W3.heap.size + 2, 1, none⟩) (cell_lt b0)).trans b1
          have v2 := (hB3.cell (p := ⟨W3.heap.size + 2, 2, none⟩) (cell_lt b0)).trans b2
          have v3 := (hB3.cell (p := ⟨W3.heap.size + 2, 3, none⟩) (cell_lt b0)).trans b3
          have HM := Lib.hid (And.intro hB0 (And.intro hB1 (And.intro hsz hs6)))
          have hc0 : (0 : Int) ≤ c := by omega
          have hc60' : (c : Int) ≤ 60 := by omega
          have hd0 : (0 : Int) ≤ d := by omega
          have hd6' : (d : Int) ≤ 6 := by omega
          clear hcw b0 b1 b2 b3 ne1 ne2 hB0 hB1 hB2 hB3 hB4 hsz hs6 hT8
          go_upto_if 62 with (first
            | (go_at_call 45; refine (hT5 _).mono ?_; rintro e w' ⟨rfl, hw⟩; have hw := hw.symm; subst hw))
          go_cut [8, 9] (fun s8 s9 wx => ∃ N : LT, s8 = .int .i64 N.ht ∧ s9 = .int .i64 N.cnt ∧ Hid (TailR W6 B (W3.heap.size + 2) N wx))
          case first =>
            by_cases hn1 : 1 < n
            · rw [show decide ((1 : Int) < n) = true from decide_eq_true hn1]
              obtain ⟨m, rfl⟩ : ∃ m : Nat, n = m := ⟨n.toNat, by omega⟩
              have hm5 : m < 5 := by omega
              have HB2 := Lib.hid (cells4 HB.out.2.2.1)
              go_wp2_with (go_at_call 41; refine (Tuple_any _ _ _ _).mono ?_; rintro e W8 ⟨rfl, hb8⟩; have H8 := Lib.hid hb8; dsimp only [Node.val]; obtain ⟨⟨z0, z1, z2, z3⟩, y0, y1, y2, y3⟩ := cells4 ((hb8.block B (by have := HB.out.2.1; simp; omega)).trans ((Below.heap_alloc _ _ B HB.out.2.1).trans HB.out.2.2.1)); clear hb8)
              have hst : RelN W6 B (W3.heap.size + 2) [.mk ⟨vk, vn, vs, va, vl, vc⟩ vkids] (some ⟨wc.heap.size, 0, none⟩) 1 ((((W8.setCell ⟨B, 0, none⟩ (.int .i64 2)).setCell ⟨B, 1, none⟩ (.int .i64 0)).setCell ⟨B, 2, none⟩ (.string ByteArray.empty)).setCell ⟨B, 3, none⟩ (.slice (some ⟨wc.heap.size, 0, none⟩) 1 1)) :=
                RelN.start (V := .mk ⟨vk, vn, vs, va, vl, vc⟩ vkids) HB.out.2.2.2.1 HB.out.1 HB.out.2.2.1 H8.out ⟨(HR.out.keep H6.out).v, HR.out.ok⟩
              have HST := Lib.hid hst
              have hxyz : ∀ V ∈ [x, y, z], (IsV (fun b => b < W6.heap.size ∧ b ≠ W3.heap.size + 2) W6 V ∧ OkV V) ∧ V.ht ≤ 3 ∧ V.cnt ≤ 40 := fun V hV => by
                have h1 := H3.out.1 V hV
                have h2 := HM.out
                have h3 := (HR.out.keep H6.out).bel
                exact ⟨⟨h1.1.kept (fun b hb => by omega) (fun b hb hl => h3.block b hl), h1.2.1⟩, h1.2.2.1, by have := h1.2.2.2; simp [costM] at this; omega⟩
              have HXYZ := Lib.hid hxyz
              have HArr : Hid (∀ W, Below W6.heap.size W6 W → W.heap[W3.heap.size + 1]? = some (.cells (cells12 x.node y.node z.node) 49 (0, 0))) := Lib.hid fun W hW => ((HR.out.keep H6.out).keep hW).arr
              have hSzA : ∀ V ∈ [x, y, z], ∀ W, Below W6.heap.size W6 W → Calls Tryz.prog 13 #[V.node.val] W fun e w' => e = .returned (.tuple #[.int .i64 V.cnt, .int .i64 0]) ∧ Below W.heap.size W w' := fun V hV W hW => by
                have h1 := hxyz V hV
                have h2 := Size_ok V h1.1.2 (by omega) W (h1.1.1.isT (fun b hb => hb.1) |>.bel hW |>.more hW.size)
                rw [OkV.size h1.1.2 (by omega) (by omega), if_neg (by have := V.cnt_pos; omega)] at h2
                exact h2
              have hDpA : ∀ V ∈ [x, y, z], ∀ W, Below W6.heap.size W6 W → Calls Tryz.prog 43 #[V.node.val] W fun e w' => e = .returned (.int .i64 V.ht) ∧ Below W.heap.size W w' := fun V hV W hW => by
                have h1 := hxyz V hV
                exact depth_any 3 V h1.2.1 (by omega) W6.heap.size W (h1.1.1.isT (fun b hb => hb.1) |>.bel hW) hW.size
              have HSzA := Lib.hid hSzA
              have HDpA := Lib.hid hDpA
              have hm0 : 0 < m := by omega
              clear hst hxyz hSzA hDpA z0 z1 z2 z3 y0 y1 y2 y3 e0 e1 e2 e3 g0 g1 g2 g3 v0 v1 v2 v3 hcw' hbr ht5 hT5
              go_loopg [8, 9, 15] (m - 1 : Nat) (fun gh s8 s9 s15 wq => ∃ (k2 sz dp : Nat) (us : List LT) (ua : Option Addr) (uc : Nat), gh = m - k2 ∧ 1 ≤ k2 ∧ k2 ≤ m ∧ s15 = .int .i64 k2 ∧ s8 = .int .i64 dp ∧ s9 = .int .i64 sz ∧ Hid (us.length = k2 ∧ dp = LT.htL us + 1 ∧ sz = LT.cntL us + 1) ∧ dp ≤ 7 ∧ sz ≤ 61 + 40 * k2 ∧ RelN W6 B (W3.heap.size + 2) us ua uc wq)
              case atStart =>
                have hC := HC.out
                exact ⟨1, c + 1, d + 1, _, _, _, by omega, by omega, by omega, rfl, by go_num, by go_num, Lib.hid ⟨rfl, by simp only [LT.htL]; omega, by simp only [LT.cntL]; omega⟩, by omega, by omega, HST.out⟩
              case round =>
                clear HST
                obtain ⟨k2, sz, dp, us, ua, uc, rfl, hk1, hk2, rfl, rfl, rfl, HU, hdp, hsz, R2⟩ := hrel
                by_cases hlt : k2 < m
                · have hu := HU.out
                  have hbq := R2.box
                  rw [hu.1] at hbq
                  have hown := R2.own
                  rw [hu.1] at hown
                  have hge := ownBlock_ge R2.own
                  rw [hu.1] at hge
                  have n3 : wr.cell? ⟨B, 3, none⟩ = some (.slice ua k2 uc) := by simp [World.cell?, hbq]
                  have n3f : wr.frozen? ⟨B, 3, none⟩ = false := by simp [World.frozen?, hbq]
                  have harr := HArr.out wr R2.bel
                  have hca := (cells12_at harr).1
                  have hBw := R2.lt
                  have hB6 := R2.hB
                  have hvs := HM.out.2.2
                  obtain ⟨i0, hi0, hz0, hz1, hz2⟩ := info_parts infoV
                  have ne1 : wr.heap.size ≠ B := by omega
                  have ne2 : B ≠ wr.heap.size := by omega
                  have n3a : ∀ o, (wr.alloc o).cell? ⟨B, 3, none⟩ = some (.slice ua k2 uc) := fun o => Below.cell_al o n3
                  have HR2 := Lib.hid R2
                  have HOwn := Lib.hid hown
                  have HGe := Lib.hid hge
                  have HBq := Lib.hid hbq
                  have HN := Lib.hid (And.intro hBw (And.intro hB6 hvs))
                  have hsz200 : (sz : Int) ≤ 221 := by omega
                  have hdp7 : (dp : Int) ≤ 7 := by omega
                  have hk2m : (k2 : Int) < (m : Int) := by omega
                  clear R2 hu hbq hown harr hge hvs hBw hB6
                  rcases (show k2 = 1 ∨ k2 = 2 ∨ k2 = 3 by omega) with rfl | rfl | rfl
                  · have a0 := hca 4
                    have a1 := hca 5
                    have a2 := hca 6
                    have a3 := hca 7
                    simp only [cells12, List.getElem?_toArray, List.getElem?_cons_succ, List.getElem?_cons_zero] at a0 a1 a2 a3
                    have a0' : ∀ o, (wr.alloc o).cell? _ = _ := fun o => Below.cell_al o a0
                    have a1' : ∀ o, (wr.alloc o).cell? _ = _ := fun o => Below.cell_al o a1
                    have a2' : ∀ o, (wr.alloc o).cell? _ = _ := fun o => Below.cell_al o a2
                    have a3' : ∀ o, (wr.alloc o).cell? _ = _ := fun o => Below.cell_al o a3
                    clear hca
                    go_upto_region 19 with fail
                    go_cut [] (fun wx => ∃ (ua' : Option Addr) (uc' : Nat), Hid (RelN W6 B (W3.heap.size + 2) (us ++ [y]) ua' uc' wx))
                    case first =>
                      go_region_law (refine step_append_lies _ (by rfl) (.tmp 72) (.tmp 77) 22 (by rfl) (B + 1) 24 i0 (.agg #[.int .i64 0, .int .i64 0, .string ByteArray.empty, .slice none 0 0]) 4 56 undV hi0 hz0 hz1 hz2 rfl (by decide) (.slice ua 1 uc) 1 _ (by simp [Act.eval, Act.put]) (by first | exact (HOwn.out.alloc _).drew | exact HOwn.out.alloc _ | exact (HOwn.out.drew.alloc _).drew | exact HOwn.out.drew.alloc _) ⟨wr.heap.size, 0, none⟩ 1 1 [.int .i64 y.node.k, .int .i64 y.node.n, .string y.node.s, .slice y.node.a y.node.len y.node.cap] (by simp [Act.eval, Act.put]) rfl (World.news_of_block (cs := #[.int .i64 y.node.k, .int .i64 y.node.n, .string y.node.s, .slice y.node.a y.node.len y.node.cap]) (t := 24) (fr := (0, 0)) (World.alloc_heap_new wr _)) (by simp [Value.oneCell']) (by omega) (by unfold maxLen; omega) (by omega) (by have := HN.out.1; simp; omega) (wr.heap.size + 1) (by simp) ?_; intro gg cap' w1 hown1 hgrow hat hlt1; have c6 := ((hgrow.cell_far ⟨B, 3, none⟩ (by have := HN.out.1; simp; omega) (fun e => by have := HGe.out B e.symm; omega)).trans (((Below.refl wr.heap.size wr).alloc (Nat.le_refl _) _).cell (p := ⟨B, 3, none⟩) HN.out.1)).trans n3; have g6 := ((hgrow.frozen_far ⟨B, 3, none⟩ (by have := HN.out.1; simp; omega) (fun e => by have := HGe.out B e.symm; omega)).trans (((Below.refl wr.heap.size wr).alloc (Nat.le_refl _) _).frozen (p := ⟨B, 3, none⟩) HN.out.1)).trans n3f)
                      all_goals (go_step; go_step; go_meet; exact ⟨_, _, Lib.hid (HR2.out.step (c := y) HU.out.1 (by first | exact ((Below.refl _ _).alloc (Nat.le_refl _) _).drew | exact (Below.refl _ _).alloc (Nat.le_refl _) _ | exact (Below.refl _ _).drew.alloc (Nat.le_refl _) _ | exact ((Below.refl _ _).drew.alloc (Nat.le_refl _) _).drew) hgrow hown1 (HXYZ.out y (by simp)).1)⟩)
                    case rest =>
                      obtain ⟨ua', uc', HR3⟩ := hcut
                      have HRun : Hid (∀ W, Below wc.heap.size wc W → W.cell? ⟨W3.heap.size + 1, 4, none⟩ = some (.int .i64 y.node.k) ∧ W.cell? ⟨W3.heap.size + 1, 5, none⟩ = some (.int .i64 y.node.n) ∧ W.cell? ⟨W3.heap.size + 1, 6, none⟩ = some (.string y.node.s) ∧ W.cell? ⟨W3.heap.size + 1, 7, none⟩ = some (.slice y.node.a y.node.len y.node.cap)) := Lib.hid fun W hW => by
                        have hca := (cells12_at (HArr.out W ((HR3.out.keep hW).bel))).1
                        exact ⟨hca 4, hca 5, hca 6, hca 7⟩
                      obtain ⟨q0, q1, q2, q3⟩ := HRun.out wc (Below.refl _ _)
                      have hS2 := HSzA.out y (by simp) wc HR3.out.bel
                      have hD2 := fun W (hW : Below wc.heap.size wc W) => HDpA.out y (by simp) W (HR3.out.keep hW).bel
                      have hbd := HXYZ.out y (by simp)
                      obtain ⟨cn, hcn⟩ : ∃ cn, y.cnt = cn := ⟨_, rfl⟩
                      obtain ⟨hn, hhn⟩ : ∃ hn, y.ht = hn := ⟨_, rfl⟩
                      rw [hcn] at hS2
                      rw [hhn] at hD2
                      have hcn40 : (cn : Int) ≤ 40 := by omega
                      have hhn3 : (hn : Int) ≤ 3 := by omega
                      have hcn0 : (0 : Int) ≤ cn := by omega
                      have hhn0 : (0 : Int) ≤ hn := by omega
                      have hsz0 : (0 : Int) ≤ sz := by omega
                      have hdp0 : (0 : Int) ≤ dp := by omega
                      have HX := Lib.hid (And.intro hcn hhn)
                      dsimp only [Node.val] at hS2 hD2
                      clear hbd hcn hhn a0 a1 a2 a3 a0' a1' a2' a3' n3 n3a n3f
                      rcases Int.lt_trichotomy (dp : Int) (1 + (hn : Int)) with hmh | hmh | hmh
                      all_goals
                        go_wp2_with (first
                          | (go_at_call 13; refine hS2.mono ?_; clear hS2; rintro e W9 ⟨rfl, hb9⟩; have H9 := Lib.hid hb9; clear hb9; obtain ⟨p0, p1, p2, p3⟩ := HRun.out W9 H9.out)
                          | (go_at_call 43; refine (hD2 W9 H9.out).mono ?_; clear hD2; rintro e W10 ⟨rfl, hb10⟩; have H10 := Lib.hid (H9.out.trans (hb10.mono H9.out.size)); clear hb10))
                        go_roundg (m - 2)
                        case measure => omega
                        case rel =>
                          have hu := HU.out
                          have hX := HX.out
                          exact ⟨2, sz + cn, max dp (1 + hn), us ++ [y], ua', uc', rfl, by omega, by omega, by first | rfl | go_num, congrArg (Value.int .i64) (by omega), congrArg (Value.int .i64) (by omega), Lib.hid ⟨by rw [List.length_append, hu.1]; rfl, by rw [LT.htL_snoc, hX.2]; omega, by rw [LT.cntL_snoc, hX.1]; omega⟩, by omega, by omega, HR3.out.keep H10.out⟩
                  · have a0 := hca 8
                    have a1 := hca 9
                    have a2 := hca 10
                    have a3 := hca 11
                    simp only [cells12, List.getElem?_toArray, List.getElem?_cons_succ, List.getElem?_cons_zero] at a0 a1 a2 a3
                    have a0' : ∀ o, (wr.alloc o).cell? _ = _ := fun o => Below.cell_al o a0
                    have a1' : ∀ o, (wr.alloc o).cell? _ = _ := fun o => Below.cell_al o a1
                    have a2' : ∀ o, (wr.alloc o).cell? _ = _ := fun o => Below.cell_al o a2
                    have a3' : ∀ o, (wr.alloc o).cell? _ = _ := fun o => Below.cell_al o a3
                    clear hca
                    go_upto_region 19 with fail
                    go_cut [] (fun wx => ∃ (ua' : Option Addr) (uc' : Nat), Hid (RelN W6 B (W3.heap.size + 2) (us ++ [z]) ua' uc' wx))
                    case first =>
                      go_region_law (refine step_append_lies _ (by rfl) (.tmp 72) (.tmp 77) 22 (by rfl) (B + 1) 24 i0 (.agg #[.int .i64 0, .int .i64 0, .string ByteArray.empty, .slice none 0 0]) 4 56 undV hi0 hz0 hz1 hz2 rfl (by decide) (.slice ua 2 uc) 2 _ (by simp [Act.eval, Act.put]) (by first | exact (HOwn.out.alloc _).drew | exact HOwn.out.alloc _ | exact (HOwn.out.drew.alloc _).drew | exact HOwn.out.drew.alloc _) ⟨wr.heap.size, 0, none⟩ 1 1 [.int .i64 z.node.k, .int .i64 z.node.n, .string z.node.s, .slice z.node.a z.node.len z.node.cap] (by simp [Act.eval, Act.put]) rfl (World.news_of_block (cs := #[.int .i64 z.node.k, .int .i64 z.node.n, .string z.node.s, .slice z.node.a z.node.len z.node.cap]) (t := 24) (fr := (0, 0)) (World.alloc_heap_new wr _)) (by simp [Value.oneCell']) (by omega) (by unfold maxLen; omega) (by omega) (by have := HN.out.1; simp; omega) (wr.heap.size + 1) (by simp) ?_; intro gg cap' w1 hown1 hgrow hat hlt1; have c6 := ((hgrow.cell_far ⟨B, 3, none⟩ (by have := HN.out.1; simp; omega) (fun e => by have := HGe.out B e.symm; omega)).trans (((Below.refl wr.heap.size wr).alloc (Nat.le_refl _) _).cell (p := ⟨B, 3, none⟩) HN.out.1)).trans n3; have g6 := ((hgrow.frozen_far ⟨B, 3, none⟩ (by have := HN.out.1; simp; omega) (fun e => by have := HGe.out B e.symm; omega)).trans (((Below.refl wr.heap.size wr).alloc (Nat.le_refl _) _).frozen (p := ⟨B, 3, none⟩) HN.out.1)).trans n3f)
                      all_goals (go_step; go_step; go_meet; exact ⟨_, _, Lib.hid (HR2.out.step (c := z) HU.out.1 (by first | exact ((Below.refl _ _).alloc (Nat.le_refl _) _).drew | exact (Below.refl _ _).alloc (Nat.le_refl _) _ | exact (Below.refl _ _).drew.alloc (Nat.le_refl _) _ | exact ((Below.refl _ _).drew.alloc (Nat.le_refl _) _).drew) hgrow hown1 (HXYZ.out z (by simp)).1)⟩)
                    case rest =>
                      obtain ⟨ua', uc', HR3⟩ := hcut
                      have HRun : Hid (∀ W, Below wc.heap.size wc W → W.cell? ⟨W3.heap.size + 1, 8, none⟩ = some (.int .i64 z.node.k) ∧ W.cell? ⟨W3.heap.size + 1, 9, none⟩ = some (.int .i64 z.node.n) ∧ W.cell? ⟨W3.heap.size + 1, 10, none⟩ = some (.string z.node.s) ∧ W.cell? ⟨W3.heap.size + 1, 11, none⟩ = some (.slice z.node.a z.node.len z.node.cap)) := Lib.hid fun W hW => by
                        have hca := (cells12_at (HArr.out W ((HR3.out.keep hW).bel))).1
                        exact ⟨hca 8, hca 9, hca 10, hca 11⟩
                      obtain ⟨q0, q1, q2, q3⟩ := HRun.out wc (Below.refl _ _)
                      have hS2 := HSzA.out z (by simp) wc HR3.out.bel
                      have hD2 := fun W (hW : Below wc.heap.size wc W) => HDpA.out z (by simp) W (HR3.out.keep hW).bel
                      have hbd := HXYZ.out z (by simp)
                      obtain ⟨cn, hcn⟩ : ∃ cn, z.cnt = cn := ⟨_, rfl⟩
                      obtain ⟨hn, hhn⟩ : ∃ hn, z.ht = hn := ⟨_, rfl⟩
                      rw [hcn] at hS2
                      rw [hhn] at hD2
                      have hcn40 : (cn : Int) ≤ 40 := by omega
                      have hhn3 : (hn : Int) ≤ 3 := by omega
                      have hcn0 : (0 : Int) ≤ cn := by omega
                      have hhn0 : (0 : Int) ≤ hn := by omega
                      have hsz0 : (0 : Int) ≤ sz := by omega
                      have hdp0 : (0 : Int) ≤ dp := by omega
                      have HX := Lib.hid (And.intro hcn hhn)
                      dsimp only [Node.val] at hS2 hD2
                      clear hbd hcn hhn a0 a1 a2 a3 a0' a1' a2' a3' n3 n3a n3f
                      rcases Int.lt_trichotomy (dp : Int) (1 + (hn : Int)) with hmh | hmh | hmh
                      all_goals
                        go_wp2_with (first
                          | (go_at_call 13; refine hS2.mono ?_; clear hS2; rintro e W9 ⟨rfl, hb9⟩; have H9 := Lib.hid hb9; clear hb9; obtain ⟨p0, p1, p2, p3⟩ := HRun.out W9 H9.out)
                          | (go_at_call 43; refine (hD2 W9 H9.out).mono ?_; clear hD2; rintro e W10 ⟨rfl, hb10⟩; have H10 := Lib.hid (H9.out.trans (hb10.mono H9.out.size)); clear hb10))
                        go_roundg (m - 3)
                        case measure => omega
                        case rel =>
                          have hu := HU.out
                          have hX := HX.out
                          exact ⟨3, sz + cn, max dp (1 + hn), us ++ [z], ua', uc', rfl, by omega, by omega, by first | rfl | go_num, congrArg (Value.int .i64) (by omega), congrArg (Value.int .i64) (by omega), Lib.hid ⟨by rw [List.length_append, hu.1]; rfl, by rw [LT.htL_snoc, hX.2]; omega, by rw [LT.cntL_snoc, hX.1]; omega⟩, by omega, by omega, HR3.out.keep H10.out⟩
                  · have a0 := hca 0
                    have a1 := hca 1
                    have a2 := hca 2
                    have a3 := hca 3
                    simp only [cells12, List.getElem?_toArray, List.getElem?_cons_succ, List.getElem?_cons_zero] at a0 a1 a2 a3
                    have a0' : ∀ o, (wr.alloc o).cell? _ = _ := fun o => Below.cell_al o a0
                    have a1' : ∀ o, (wr.alloc o).cell? _ = _ := fun o => Below.cell_al o a1
                    have a2' : ∀ o, (wr.alloc o).cell? _ = _ := fun o => Below.cell_al o a2
                    have a3' : ∀ o, (wr.alloc o).cell? _ = _ := fun o => Below.cell_al o a3
                    clear hca
                    go_upto_region 19 with fail
                    go_cut [] (fun wx => ∃ (ua' : Option Addr) (uc' : Nat), Hid (RelN W6 B (W3.heap.size + 2) (us ++ [x]) ua' uc' wx))
                    case first =>
                      go_region_law (refine step_append_lies _ (by rfl) (.tmp 72) (.tmp 77) 22 (by rfl) (B + 1) 24 i0 (.agg #[.int .i64 0, .int .i64 0, .string ByteArray.empty, .slice none 0 0]) 4 56 undV hi0 hz0 hz1 hz2 rfl (by decide) (.slice ua 3 uc) 3 _ (by simp [Act.eval, Act.put]) (by first | exact (HOwn.out.alloc _).drew | exact HOwn.out.alloc _ | exact (HOwn.out.drew.alloc _).drew | exact HOwn.out.drew.alloc _) ⟨wr.heap.size, 0, none⟩ 1 1 [.int .i64 x.node.k, .int .i64 x.node.n, .string x.node.s, .slice x.node.a x.node.len x.node.cap] (by simp [Act.eval, Act.put]) rfl (World.news_of_block (cs := #[.int .i64 x.node.k, .int .i64 x.node.n, .string x.node.s, .slice x.node.a x.node.len x.node.cap]) (t := 24) (fr := (0, 0)) (World.alloc_heap_new wr _)) (by simp [Value.oneCell']) (by omega) (by unfold maxLen; omega) (by omega) (by have := HN.out.1; simp; omega) (wr.heap.size + 1) (by simp) ?_; intro gg cap' w1 hown1 hgrow hat hlt1; have c6 := ((hgrow.cell_far ⟨B, 3, none⟩ (by have := HN.out.1; simp; omega) (fun e => by have := HGe.out B e.symm; omega)).trans (((Below.refl wr.heap.size wr).alloc (Nat.le_refl _) _).cell (p := ⟨B, 3, none⟩) HN.out.1)).trans n3; have g6 := ((hgrow.frozen_far ⟨B, 3, none⟩ (by have := HN.out.1; simp; omega) (fun e => by have := HGe.out B e.symm; omega)).trans (((Below.refl wr.heap.size wr).alloc (Nat.le_refl _) _).frozen (p := ⟨B, 3, none⟩) HN.out.1)).trans n3f)
                      all_goals (go_step; go_step; go_meet; exact ⟨_, _, Lib.hid (HR2.out.step (c := x) HU.out.1 (by first | exact ((Below.refl _ _).alloc (Nat.le_refl _) _).drew | exact (Below.refl _ _).alloc (Nat.le_refl _) _ | exact (Below.refl _ _).drew.alloc (Nat.le_refl _) _ | exact ((Below.refl _ _).drew.alloc (Nat.le_refl _) _).drew) hgrow hown1 (HXYZ.out x (by simp)).1)⟩)
                    case rest =>
                      obtain ⟨ua', uc', HR3⟩ := hcut
                      have HRun : Hid (∀ W, Below wc.heap.size wc W → W.cell? ⟨W3.heap.size + 1, 0, none⟩ = some (.int .i64 x.node.k) ∧ W.cell? ⟨W3.heap.size + 1, 1, none⟩ = some (.int .i64 x.node.n) ∧ W.cell? ⟨W3.heap.size + 1, 2, none⟩ = some (.string x.node.s) ∧ W.cell? ⟨W3.heap.size + 1, 3, none⟩ = some (.slice x.node.a x.node.len x.node.cap)) := Lib.hid fun W hW => by
                        have hca := (cells12_at (HArr.out W ((HR3.out.keep hW).bel))).1
                        exact ⟨hca 0, hca 1, hca 2, hca 3⟩
                      obtain ⟨q0, q1, q2, q3⟩ := HRun.out wc (Below.refl _ _)
                      have hS2 := HSzA.out x (by simp) wc HR3.out.bel
                      have hD2 := fun W (hW : Below wc.heap.size wc W) => HDpA.out x (by simp) W (HR3.out.keep hW).bel
                      have hbd := HXYZ.out x (by simp)
                      obtain ⟨cn, hcn⟩ : ∃ cn, x.cnt = cn := ⟨_, rfl⟩
                      obtain ⟨hn, hhn⟩ : ∃ hn, x.ht = hn := ⟨_, rfl⟩
                      rw [hcn] at hS2
                      rw [hhn] at hD2
                      have hcn40 : (cn : Int) ≤ 40 := by omega
                      have hhn3 : (hn : Int) ≤ 3 := by omega
                      have hcn0 : (0 : Int) ≤ cn := by omega
                      have hhn0 : (0 : Int) ≤ hn := by omega
                      have hsz0 : (0 : Int) ≤ sz := by omega
                      have hdp0 : (0 : Int) ≤ dp := by omega
                      have HX := Lib.hid (And.intro hcn hhn)
                      dsimp only [Node.val] at hS2 hD2
                      clear hbd hcn hhn a0 a1 a2 a3 a0' a1' a2' a3' n3 n3a n3f
                      rcases Int.lt_trichotomy (dp : Int) (1 + (hn : Int)) with hmh | hmh | hmh
                      all_goals
                        go_wp2_with (first
                          | (go_at_call 13; refine hS2.mono ?_; clear hS2; rintro e W9 ⟨rfl, hb9⟩; have H9 := Lib.hid hb9; clear hb9; obtain ⟨p0, p1, p2, p3⟩ := HRun.out W9 H9.out)
                          | (go_at_call 43; refine (hD2 W9 H9.out).mono ?_; clear hD2; rintro e W10 ⟨rfl, hb10⟩; have H10 := Lib.hid (H9.out.trans (hb10.mono H9.out.size)); clear hb10))
                        go_roundg (m - 4)
                        case measure => omega
                        case rel =>
                          have hu := HU.out
                          have hX := HX.out
                          exact ⟨4, sz + cn, max dp (1 + hn), us ++ [x], ua', uc', rfl, by omega, by omega, by first | rfl | go_num, congrArg (Value.int .i64) (by omega), congrArg (Value.int .i64) (by omega), Lib.hid ⟨by rw [List.length_append, hu.1]; rfl, by rw [LT.htL_snoc, hX.2]; omega, by rw [LT.cntL_snoc, hX.1]; omega⟩, by omega, by omega, HR3.out.keep H10.out⟩
                · have hkm : k2 = m := by omega
                  clear hkm
                  go_wp2_with fail
                  go_meet
                  have hu := HU.out
                  have hN := R2.tail (by have := HM.out.2.2; omega) (by omega) (by omega) (by omega)
                  exact ⟨_, by rw [hu.2.1]; rfl, by rw [hu.2.2]; rfl, Lib.hid hN⟩
            · go_wp2_with fail
              go_meet
              have hB := HB.out
              have hR := HR.out
              have hC := HC.out
              exact ⟨LT.tag tg g (.mk ⟨vk, vn, vs, va, vl, vc⟩ vkids), by rw [LT.tag_ht, hC.2]; rfl, by rw [LT.tag_cnt, hC.1]; rfl, Lib.hid ⟨hB.2.2.1, hB.2.2.2.1, hB.2.2.2.2, hR.ok.tag tg ht8.1 ht8.2 g, by rw [LT.tag_ht, hC.2]; omega, by rw [LT.tag_cnt, hC.1]; omega, hB.1, hB.2.1⟩⟩
          case rest =>
            clear hcw' v0 v1 v2 v3 e0 e1 e2 e3 g0 g1 g2 g3 hT5
            obtain ⟨N, rfl, rfl, HT⟩ := hcut
            have hSzN := fun W (hW : Below wc.heap.size wc W) => Size_ok N HT.out.ok (by have := HT.out.ht; omega) W ((HT.out.keep hW).v.isT (fun b h => h.1))
            have hCkN := fun W (hW : Below wc.heap.size wc W) => Check_ok N HT.out.ok (by have := HT.out.ht; omega) W ((HT.out.keep hW).v.isT (fun b h => h.1))
            have hct := HT.out.cnt
            have hht := HT.out.ht
            have hbox := HT.out.box
            have hRk := (HR.out.keep H6.out).keep HT.out.bel
            have hvb := hRk.box
            obtain ⟨⟨e0, e1, e2, e3⟩, _⟩ := cells4 hbox
            by_cases hok : N.cnt ≤ 60 ∧ N.ht ≤ 6
            · rw [OkV.size HT.out.ok hok.2 hok.1] at hSzN hCkN
              have hp := N.cnt_pos
              have hz : ((N.cnt : Int) = 0) = False := by simp; omega
              simp only [hz, if_false] at hSzN hCkN
              have HF : Hid (∀ W, Below wc.heap.size wc W → (∃ e0 : W.cell? ⟨B, 0, none⟩ = some (.int .i64 N.node.k), W.cell? ⟨B, 1, none⟩ = some (.int .i64 N.node.n) ∧ W.cell? ⟨B, 2, none⟩ = some (.string N.node.s) ∧ W.cell? ⟨B, 3, none⟩ = some (.slice N.node.a N.node.len N.node.cap))) := Lib.hid fun W hW => by
                obtain ⟨⟨a0, a1, a2, a3⟩, _⟩ := cells4 ((hW.block _ HT.out.lt).trans hbox)
                exact ⟨a0, a1, a2, a3⟩
              have hlt2 := hRk.siz
              have HG := Lib.hid (fun W (hW : Below wc.heap.size wc W) => cells4 ((hW.block (W3.heap.size + 2) (by omega)).trans hvb))
              obtain ⟨c', hc'⟩ : ∃ c', N.cnt = c' := ⟨_, rfl⟩
              obtain ⟨d', hd'⟩ : ∃ d', N.ht = d' := ⟨_, rfl⟩
              have HK := Lib.hid (And.intro hc' hd')
              have hc60 : (c' : Int) ≤ 60 := by omega
              have hd60 : (d' : Int) ≤ 6 := by omega
              have hc00 : (0 : Int) ≤ c' := by omega
              have hd00 : (0 : Int) ≤ d' := by omega
              rw [hc'] at hSzN ⊢
              rw [hd']
              clear hz hp hct hht hbox hRk hvb hok hc' hd' hlt2
              obtain ⟨⟨nk, nn, ns, na, nl, nc⟩, nkids⟩ := N
              simp only [LT.node] at e0 e1 e2 e3 HF
              dsimp only [LT.node, Node.val] at hSzN hCkN
              go_wp2_with (first
                | (go_at_call 13; refine (hSzN _ (Below.refl _ _)).mono ?_; clear hSzN; rintro e W9 ⟨rfl, hb9⟩; have H9 := Lib.hid hb9; obtain ⟨a0, a1, a2, a3⟩ := HF.out _ hb9; clear hb9)
                | (go_at_call 19; refine (hCkN _ H9.out).mono ?_; clear hCkN; rintro e W10 ⟨rfl, hb10⟩; have H10 := Lib.hid (H9.out.trans (hb10.mono H9.out.size)); clear hb10; obtain ⟨a0, a1, a2, a3⟩ := HF.out _ H10.out; obtain ⟨⟨p0, p1, p2, p3⟩, r0, r1, r2, r3⟩ := HG.out _ H10.out))
              go_roundg (12 - (k + 1))
              case measure => omega
              case rel => exact ⟨k + 1, .mk ⟨nk, nn, ns, na, nl, nc⟩ nkids, rfl, by omega, by go_num, by rw [HK.out.2], (HR.out.keep H6.out).next (HT.out.keep H10.out) (by have := HK.out.2; omega) (by have := HK.out.1; omega)⟩
            · have hsz0 : sizeF N = 0 := LT.size_bad (by omega)
              rw [hsz0] at hSzN hCkN
              simp only [if_true] at hSzN hCkN
              have HF : Hid (∀ W, Below wc.heap.size wc W → (∃ e0 : W.cell? ⟨B, 0, none⟩ = some (.int .i64 N.node.k), W.cell? ⟨B, 1, none⟩ = some (.int .i64 N.node.n) ∧ W.cell? ⟨B, 2, none⟩ = some (.string N.node.s) ∧ W.cell? ⟨B, 3, none⟩ = some (.slice N.node.a N.node.len N.node.cap))) := Lib.hid fun W hW => by
                obtain ⟨⟨a0, a1, a2, a3⟩, _⟩ := cells4 ((hW.block _ HT.out.lt).trans hbox)
                exact ⟨a0, a1, a2, a3⟩
              have HBel : Hid (Below w.heap.size w wc) := Lib.hid (HH.out.trans ((H6.out.trans (HT.out.bel.mono H6.out.size)).mono HH.out.size))
              obtain ⟨c', hc'⟩ : ∃ c', N.cnt = c' := ⟨_, rfl⟩
              obtain ⟨d', hd'⟩ : ∃ d', N.ht = d' := ⟨_, rfl⟩
              have hok' : ¬ ((c' : Int) ≤ 60 ∧ (d' : Int) ≤ 6) := by omega
              have hc00 : (0 : Int) ≤ c' := by omega
              have hd00 : (0 : Int) ≤ d' := by omega
              have hc300 : (c' : Int) ≤ 300 := by omega
              have hd7 : (d' : Int) ≤ 7 := by omega
              rw [hc', hd']
              clear hct hht hbox hRk hvb hok hc' hd' hsz0
              obtain ⟨⟨nk, nn, ns, na, nl, nc⟩, nkids⟩ := N
              simp only [LT.node] at e0 e1 e2 e3 HF
              dsimp only [LT.node, Node.val] at hSzN hCkN
              by_cases h60 : (60 : Int) < c'
              all_goals
                have hok2 := Lib.hid hok'
                (try have h6 : (6 : Int) < d' := by omega)
                clear hok'
                go_wp2_with (first
                  | (go_at_call 13; refine (hSzN _ (Below.refl _ _)).mono ?_; clear hSzN; rintro e W9 ⟨rfl, hb9⟩; have H9 := Lib.hid hb9; obtain ⟨a0, a1, a2, a3⟩ := HF.out _ hb9; clear hb9)
                  | (go_at_call 19; refine (hCkN _ H9.out).mono ?_; clear hCkN; rintro e W10 ⟨rfl, hb10⟩; have H10 := Lib.hid (H9.out.trans (hb10.mono H9.out.size)); clear hb10)
                  | (go_at_call 24; refine (HV.out _ (HBel.out.trans (H10.out.mono HBel.out.size))).mono ?_; rintro e W11 ⟨rfl, hb11⟩; have H11 := Lib.hid hb11; clear hb11))
                go_ret
                exact ⟨rfl, (HBel.out.trans (H10.out.mono HBel.out.size)).trans (H11.out.mono (by have := HBel.out.size; have := H10.out.size; omega))⟩
      · go_wp2_with (go_at_call 24; refine (HV.out _ (H3.out.2.trans (R.bel.mono H3.out.2.size))).mono ?_; rintro e W' ⟨rfl, hb⟩)
        go_ret
        exact ⟨rfl, (H3.out.2.trans (R.bel.mono H3.out.2.size)).trans (hb.mono (by have := R.bel.size; have := H3.out.2.size; omega))⟩
    · go_wp2_with (go_at_call 24; refine (HV.out _ (H3.out.2.trans (R.bel.mono H3.out.2.size))).mono ?_; rintro e W' ⟨rfl, hb⟩)
      go_ret
      exact ⟨rfl, (H3.out.2.trans (R.bel.mono H3.out.2.size)).trans (hb.mono (by have := R.bel.size; have := H3.out.2.size; omega))⟩
end Go.Proofs.YtolnkacccdkaoaaGreatDoor
