/- Three values of a type, all that numbers make. -/
import Derived.Test.YtofboalgbgipoaaGreatDoorValm
import Derived.RegionTactic
import Derived.ChangeAlike
import Derived.Handy
set_option linter.all false
namespace Go.Proofs.YtofboalgbgipoaaGreatDoor
open Go.RowKit Go.Shelf
attribute [local go_sem] Oper.semAt_some

/-- Twelve cells: three values. -/
def cells12 (x y z : Node) : Array Value := #[.int .i64 x.k, .int .i64 x.n, .string x.s, .slice x.a x.len x.cap, .int .i64 y.k, .int .i64 y.n, .string y.s, .slice y.a y.len y.cap, .int .i64 z.k, .int .i64 z.n, .string z.s, .slice z.a z.len z.cap]
def zeroN : Node := ⟨0, 0, ByteArray.empty, none, 0, 0⟩
theorem setOneAt {W : World} {B : Nat} {t : TypeId} {x y : Array Value} {i : Nat} {v : Value} (h : W.heap[B]? = some (.cells x t (0, 0))) (e : x.setIfInBounds i v = y) : (W.setCell ⟨B, i, none⟩ v).heap[B]? = some (.cells y t (0, 0)) := by
  subst e
  obtain ⟨hlt, hk⟩ := Array.getElem?_eq_some_iff.1 h
  show (W.heap.modify B _)[B]? = _
  rw [Array.getElem?_eq_getElem (by rw [Array.size_modify]; exact hlt), Array.getElem_modify_self, hk]
  rfl
/-- What holds in the loop that makes three values: the type's box is block B, the row's B + 1. -/
structure Rel3 (w W3 : World) (T : TT) (x y z : LT) (W : World) : Prop where
  typ : W.heap[W3.heap.size]? = some (.cells #[.int .i64 T.k, T.row] 27 (0, 0))
  arr : W.heap[W3.heap.size + 1]? = some (.cells (cells12 x.node y.node z.node) 39 (0, 0))
  bel : Below W3.heap.size W3 W
  siz : W3.heap.size + 2 ≤ W.heap.size
  x : IsV (fun b => W3.heap.size + 2 ≤ b ∧ b < W.heap.size) W x ∧ Fine 3 x
  y : IsV (fun b => W3.heap.size + 2 ≤ b ∧ b < W.heap.size) W y ∧ Fine 3 y
  z : IsV (fun b => W3.heap.size + 2 ≤ b ∧ b < W.heap.size) W z ∧ Fine 3 z
def zeroT : LT := .mk zeroN []
theorem zero_ok (S : Nat → Prop) (W : World) : IsV S W zeroT ∧ Fine 3 zeroT :=
  ⟨.mk _ _ rfl (by simp [zeroN, maxLen]) (by simp [zeroN]) (fun i c h => by simp at h) (fun c h => by simp at h), Fine.leaf 2 _ (by simp [okNode, zeroN]) (by simp [zeroN]) (by simp [zeroN])⟩
theorem Rel3.keep {w W3 : World} {T : TT} {x y z : LT} {W W5 : World} (h : Rel3 w W3 T x y z W) (hb : Below W.heap.size W W5) : Rel3 w W3 T x y z W5 := by
  have hs := h.siz
  have h5 := hb.size
  have kp : ∀ {V : LT}, IsV (fun b => W3.heap.size + 2 ≤ b ∧ b < W.heap.size) W V → IsV (fun b => W3.heap.size + 2 ≤ b ∧ b < W5.heap.size) W5 V := fun hV => hV.kept (fun b hb' => ⟨hb'.1, by omega⟩) (fun b hb' hlt => hb.block b hlt)
  exact ⟨(hb.block _ (by omega)).trans h.typ, (hb.block _ (by omega)).trans h.arr, h.bel.trans (hb.mono (by omega)), by omega, ⟨kp h.x.1, h.x.2⟩, ⟨kp h.y.1, h.y.2⟩, ⟨kp h.z.1, h.z.2⟩⟩
/-- A value is stored in the row. -/
theorem Rel3.put {w W3 : World} {T : TT} {x y z x' y' z' : LT} {W : World} (h : Rel3 w W3 T x y z W) {o : Nat} {c0 c1 c2 c3 : Value}
    (e : ((((cells12 x.node y.node z.node).setIfInBounds o c0).setIfInBounds (o + 1) c1).setIfInBounds (o + 2) c2).setIfInBounds (o + 3) c3 = cells12 x'.node y'.node z'.node)
    (hx : IsV (fun b => W3.heap.size + 2 ≤ b ∧ b < W.heap.size) W x' ∧ Fine 3 x') (hy : IsV (fun b => W3.heap.size + 2 ≤ b ∧ b < W.heap.size) W y' ∧ Fine 3 y') (hz : IsV (fun b => W3.heap.size + 2 ≤ b ∧ b < W.heap.size) W z' ∧ Fine 3 z') :
    Rel3 w W3 T x' y' z' ((((W.setCell ⟨W3.heap.size + 1, o, none⟩ c0).setCell ⟨W3.heap.size + 1, o + 1, none⟩ c1).setCell ⟨W3.heap.size + 1, o + 2, none⟩ c2).setCell ⟨W3.heap.size + 1, o + 3, none⟩ c3) := by
  obtain ⟨W', hW'⟩ : ∃ W', ((((W.setCell ⟨W3.heap.size + 1, o, none⟩ c0).setCell ⟨W3.heap.size + 1, o + 1, none⟩ c1).setCell ⟨W3.heap.size + 1, o + 2, none⟩ c2).setCell ⟨W3.heap.size + 1, o + 3, none⟩ c3) = W' := ⟨_, rfl⟩
  have hk : ∀ b, b ≠ W3.heap.size + 1 → W'.heap[b]? = W.heap[b]? := fun b hne => by
    rw [← hW']
    exact (((Below.heap_setCell _ _ _ b hne).trans (Below.heap_setCell _ _ _ b hne)).trans (Below.heap_setCell _ _ _ b hne)).trans (Below.heap_setCell _ _ _ b hne)
  have hsz : W'.heap.size = W.heap.size := by rw [← hW']; simp [World.setCell]
  have harr : W'.heap[W3.heap.size + 1]? = some (.cells (cells12 x'.node y'.node z'.node) 39 (0, 0)) := by
    rw [← hW', ← e]
    exact setOneAt (setOneAt (setOneAt (setOneAt h.arr rfl) rfl) rfl) rfl
  have hbel : Below W3.heap.size W3 W' := by
    rw [← hW']
    exact (((h.bel.setCell (p := ⟨W3.heap.size + 1, o, none⟩) (by simp) _).setCell (p := ⟨W3.heap.size + 1, o + 1, none⟩) (by simp) _).setCell (p := ⟨W3.heap.size + 1, o + 2, none⟩) (by simp) _).setCell (p := ⟨W3.heap.size + 1, o + 3, none⟩) (by simp) _
  have kp : ∀ {V : LT}, IsV (fun b => W3.heap.size + 2 ≤ b ∧ b < W.heap.size) W V → IsV (fun b => W3.heap.size + 2 ≤ b ∧ b < W'.heap.size) W' V := fun hV => hV.kept (fun b hb' => ⟨hb'.1, by omega⟩) (fun b hb' hlt => hk b (by omega))
  rw [hW']
  have hs := h.siz
  exact ⟨(hk _ (by omega)).trans h.typ, harr, hbel, by omega, ⟨kp hx.1, hx.2⟩, ⟨kp hy.1, hy.2⟩, ⟨kp hz.1, hz.2⟩⟩
theorem cells12_at {W : World} {B : Nat} {t : TypeId} {x y z : Node} (h : W.heap[B]? = some (.cells (cells12 x y z) t (0, 0))) : (∀ i, W.cell? ⟨B, i, none⟩ = (cells12 x y z)[i]?) ∧ (∀ i, i < 12 → W.frozen? ⟨B, i, none⟩ = false) := by
  constructor
  · intro i; unfold World.cell?; simp only [h]; rfl
  · intro i hi; unfold World.frozen?; simp only [h]; simp

theorem put14 {W : World} {B : Nat} {t0 t1 : TypeId} {a0 a1 b0 b1 x0 x1 x2 x3 x4 x5 x6 x7 x8 x9 x10 x11 y0 y1 y2 y3 y4 y5 y6 y7 y8 y9 y10 y11 : Value} (h0 : W.heap[B]? = some (.cells #[a0, a1] t0 (0, 0))) (h1 : W.heap[B + 1]? = some (.cells #[y0, y1, y2, y3, y4, y5, y6, y7, y8, y9, y10, y11] t1 (0, 0))) (n₀ : Nat) (hn : n₀ ≤ B) (W' : World) (hW' : ((((((((((((((W.setCell ⟨B, 0, none⟩ b0).setCell ⟨B, 1, none⟩ b1).setCell ⟨B + 1, 0, none⟩ x0).setCell ⟨B + 1, 1, none⟩ x1).setCell ⟨B + 1, 2, none⟩ x2).setCell ⟨B + 1, 3, none⟩ x3).setCell ⟨B + 1, 4, none⟩ x4).setCell ⟨B + 1, 5, none⟩ x5).setCell ⟨B + 1, 6, none⟩ x6).setCell ⟨B + 1, 7, none⟩ x7).setCell ⟨B + 1, 8, none⟩ x8).setCell ⟨B + 1, 9, none⟩ x9).setCell ⟨B + 1, 10, none⟩ x10).setCell ⟨B + 1, 11, none⟩ x11).drew = W') :
    W'.heap[B]? = some (.cells #[b0, b1] t0 (0, 0)) ∧ W'.heap[B + 1]? = some (.cells #[x0, x1, x2, x3, x4, x5, x6, x7, x8, x9, x10, x11] t1 (0, 0)) ∧ (∀ b, b ≠ B → b ≠ B + 1 → W'.heap[b]? = W.heap[b]?) ∧ W'.heap.size = W.heap.size ∧ Below n₀ W W' := by
  subst hW'
  have e : ∀ (V : World), V.drew.heap = V.heap := fun _ => rfl
  have hs : ∀ (V : World) (b o : Nat) (v : Value), (V.setCell ⟨b, o, none⟩ v).heap.size = V.heap.size := fun _ _ _ _ => by simp [World.setCell]
  refine ⟨?_, ?_, fun b h h' => ?_, ?_, ?_⟩
  · rw [e]
    iterate 12 rw [Below.heap_setCell _ _ _ _ (by simp)]
    exact setOneAt (setOneAt h0 rfl) rfl
  · rw [e]
    have h2 : ((W.setCell ⟨B, 0, none⟩ b0).setCell ⟨B, 1, none⟩ b1).heap[B + 1]? = some (.cells #[y0, y1, y2, y3, y4, y5, y6, y7, y8, y9, y10, y11] t1 (0, 0)) := by
      rw [Below.heap_setCell _ _ _ _ (by simp), Below.heap_setCell _ _ _ _ (by simp)]; exact h1
    have q1 := setOneAt (i := 0) (v := x0) (y := #[x0, y1, y2, y3, y4, y5, y6, y7, y8, y9, y10, y11]) h2 rfl
    have q2 := setOneAt (i := 1) (v := x1) (y := #[x0, x1, y2, y3, y4, y5, y6, y7, y8, y9, y10, y11]) q1 rfl
    have q3 := setOneAt (i := 2) (v := x2) (y := #[x0, x1, x2, y3, y4, y5, y6, y7, y8, y9, y10, y11]) q2 rfl
    have q4 := setOneAt (i := 3) (v := x3) (y := #[x0, x1, x2, x3, y4, y5, y6, y7, y8, y9, y10, y11]) q3 rfl
    have q5 := setOneAt (i := 4) (v := x4) (y := #[x0, x1, x2, x3, x4, y5, y6, y7, y8, y9, y10, y11]) q4 rfl
    have q6 := setOneAt (i := 5) (v := x5) (y := #[x0, x1, x2, x3, x4, x5, y6, y7, y8, y9, y10, y11]) q5 rfl
    have q7 := setOneAt (i := 6) (v := x6) (y := #[x0, x1, x2, x3, x4, x5, x6, y7, y8, y9, y10, y11]) q6 rfl
    have q8 := setOneAt (i := 7) (v := x7) (y := #[x0, x1, x2, x3, x4, x5, x6, x7, y8, y9, y10, y11]) q7 rfl
    have q9 := setOneAt (i := 8) (v := x8) (y := #[x0, x1, x2, x3, x4, x5, x6, x7, x8, y9, y10, y11]) q8 rfl
    have q10 := setOneAt (i := 9) (v := x9) (y := #[x0, x1, x2, x3, x4, x5, x6, x7, x8, x9, y10, y11]) q9 rfl
    have q11 := setOneAt (i := 10) (v := x10) (y := #[x0, x1, x2, x3, x4, x5, x6, x7, x8, x9, x10, y11]) q10 rfl
    have q12 := setOneAt (i := 11) (v := x11) (y := #[x0, x1, x2, x3, x4, x5, x6, x7, x8, x9, x10, x11]) q11 rfl
    exact q12
  · rw [e]
    iterate 12 rw [Below.heap_setCell _ _ _ _ h']
    rw [Below.heap_setCell _ _ _ _ h, Below.heap_setCell _ _ _ _ h]
  · rw [e]; simp only [hs]
  · refine Below.drew ?_
    iterate 12 refine Below.setCell ?_ (p := ⟨B + 1, _, none⟩) (by simp; omega) _
    exact ((Below.refl _ _).setCell (p := ⟨B, 0, none⟩) hn _).setCell (p := ⟨B, 1, none⟩) hn _
set_option maxRecDepth 100000 in
set_option maxHeartbeats 4000000 in
theorem threeT_any (n₀ : Nat) (a : Option Addr) (len cap : Nat) (l : List Int) (w : World) (hl : IsInts n₀ w a len l) (hn : n₀ ≤ w.heap.size) :
    Calls Tryz.prog 17 #[.slice a len cap] w fun e w' => ∃ (T : TT) (x y z : LT), e = .returned (.tuple #[.agg #[.int .i64 T.k, T.row], .agg (cells12 x.node y.node z.node)]) ∧ T.ok 3 ∧
      (∀ V ∈ [x, y, z], IsV (fun b => w.heap.size ≤ b ∧ b < w'.heap.size) w' V ∧ FineT 3 T V) ∧ IsTT (fun b => w.heap.size ≤ b ∧ b < w'.heap.size) w' T ∧ Below w.heap.size w w' := by
  obtain ⟨W2, hW2⟩ : ∃ W2, (w.alloc (.cells #[.int .i64 0, .slice none 0 0] 27)).alloc (.cells (cells12 zeroN zeroN zeroN) 39) = W2 := ⟨_, rfl⟩
  have hb2 : Below w.heap.size w W2 := by rw [← hW2]; exact ((Below.refl _ _).alloc (Nat.le_refl _) _).alloc (by simp) _
  have hs2 : W2.heap.size = w.heap.size + 2 := by rw [← hW2]; simp
  have r0 : W2.heap[w.heap.size]? = some (.cells #[.int .i64 0, .slice none 0 0] 27 (0, 0)) := by
    rw [← hW2]; exact (Below.heap_alloc _ _ _ (by simp)).trans (World.alloc_heap_new w _)
  have r1 : W2.heap[w.heap.size + 1]? = some (.cells (cells12 zeroN zeroN zeroN) 39 (0, 0)) := by
    rw [← hW2]
    have := World.alloc_heap_new (w.alloc (.cells #[.int .i64 0, .slice none 0 0] 27)) (.cells (cells12 zeroN zeroN zeroN) 39)
    rwa [World.size_alloc] at this
  have hM := MadeType_any n₀ a len cap l 2 0 W2 (by omega) (by decide) (by omega) (hl.bel (hb2.mono hn)) (by omega)
  rw [show ((2 : Nat) : Int) + 1 = 3 from rfl] at hM
  have hM' : Calls Tryz.prog 42 #[.slice a len cap, .int .i64 0, .int .i64 3] W2 fun e W3 => ∃ T at', e = .returned (.tuple #[.agg #[.int .i64 T.k, .slice T.a T.len T.cap], .int .i64 at']) ∧ Hid (0 ≤ at' ∧ at' ≤ 100 ∧ IsTT (fun b => W2.heap.size ≤ b ∧ b < W3.heap.size) W3 T ∧ T.ok 3 ∧ Below W2.heap.size W2 W3) :=
    hM.mono fun e W3 ⟨T, at', h0, h1, h2, h3, h4, h5⟩ => ⟨T, at', h0, Lib.hid ⟨h1, by simp [costT] at h2; omega, h3, h4, h5⟩⟩
  have HL := Lib.hid hl
  have HB := Lib.hid hb2
  have HR0 := Lib.hid r0
  have HR1 := Lib.hid r1
  have HS2 := Lib.hid hs2
  rw [← hW2] at hM'
  have HW := Lib.hid hW2
  clear hM hl hb2 r0 r1 hs2 hW2
  dsimp only [cells12, zeroN] at hM'
  go_enter Tryz.func17, Tryz.ntmps17
  go_wp2_with (go_at_call 42; refine hM'.mono ?_; clear hM'; rintro e W3 ⟨T, at', rfl, H3⟩)
  obtain ⟨W4, hW4⟩ : ∃ W4, (W3.alloc (.cells #[.int .i64 T.k, .slice T.a T.len T.cap] 27)).alloc (.cells (cells12 zeroN zeroN zeroN) 39) = W4 := ⟨_, rfl⟩
  have hgoal := hW4
  dsimp only [cells12, zeroN] at hgoal
  have h3 := H3.out
  rw [show ((w.alloc (Obj.cells #[Value.int IntKind.i64 0, Value.slice none 0 0] 27)).alloc (Obj.cells #[Value.int IntKind.i64 0, Value.int IntKind.i64 0, Value.string ByteArray.empty, Value.slice none 0 0, Value.int IntKind.i64 0, Value.int IntKind.i64 0, Value.string ByteArray.empty, Value.slice none 0 0, Value.int IntKind.i64 0, Value.int IntKind.i64 0, Value.string ByteArray.empty, Value.slice none 0 0] 39)) = W2 from HW.out] at h3
  obtain ⟨hat0, hat1, hTT, hTok, hb3⟩ := h3
  have hs3 := hb3.size
  have hs2 := HS2.out
  have hR : Rel3 w W3 T zeroT zeroT zeroT W4 := by
    refine ⟨?_, ?_, ?_, ?_, zero_ok _ _, zero_ok _ _, zero_ok _ _⟩
    · rw [← hW4]; exact (Below.heap_alloc _ _ _ (by simp)).trans (World.alloc_heap_new W3 _)
    · rw [← hW4]
      have := World.alloc_heap_new (W3.alloc (.cells #[.int .i64 T.k, .slice T.a T.len T.cap] 27)) (.cells (cells12 zeroN zeroN zeroN) 39)
      rwa [World.size_alloc] at this
    · rw [← hW4]; exact ((Below.refl _ _).alloc (Nat.le_refl _) _).alloc (by simp) _
    · rw [← hW4]; simp
  have HT := Lib.hid (And.intro hTT (And.intro hTok hb3))
  have HZ := Lib.hid (And.intro hs2 hs3)
  have HRR := Lib.hid hR
  have HAT := Lib.hid (And.intro hat0 hat1)
  clear H3 hW4 hTT hTok hb3 hs2 hs3 hR hat0 hat1
  rw [show (⟨#[]⟩ : ByteArray) = ByteArray.empty from rfl, hgoal]
  clear hgoal
  obtain ⟨tk, ta, tn, tc, tkids⟩ := T
  dsimp only [TT.k, TT.a, TT.len, TT.cap]
  go_loopw [5, 7] (fun p i wr => ∃ (k : Nat) (q : Int) (x y z : LT), k ≤ 3 ∧ i = .int .i64 k ∧ p = .int .i64 q ∧ 0 ≤ q ∧ q ≤ 100 + 40 * k ∧ Rel3 w W3 (.mk tk ta tn tc tkids) x y z wr ∧ Hid ((1 ≤ k → OfT x (.mk tk ta tn tc tkids)) ∧ (2 ≤ k → OfT y (.mk tk ta tn tc tkids)) ∧ (3 ≤ k → OfT z (.mk tk ta tn tc tkids)))) (fun _ i _ => 3 - (intOf i).toNat)
  case atStart => exact ⟨0, _, _, _, _, by omega, rfl, rfl, HAT.out.1, by have := HAT.out.2; omega, HRR.out, Lib.hid ⟨fun h => by omega, fun h => by omega, fun h => by omega⟩⟩
  case round =>
    obtain ⟨k, q, x, y, z, hk, rfl, rfl, hq0, hq1, R, HOT⟩ := hrel
    by_cases hlt : k < 3
    · have hT := HT.out
      have hz := HZ.out
      have hb23 := hT.2.2
      have hbwr : Below w.heap.size w wr := (HB.out.trans (hb23.mono (by omega))).trans (R.bel.mono (by omega))
      have hI := Made_any n₀ a len cap l 3 (.mk tk ta tn tc tkids) (fun b => W2.heap.size ≤ b ∧ b < W3.heap.size) q wr hT.2.1 hq0 (by simp [costN]; omega) (HL.out.bel (hbwr.mono hn)) (by have := hbwr.size; omega) (fun b hb => by have := R.siz; omega)
        (hT.1.kept (fun _ h => h) (fun b _ hlt => R.bel.block b hlt))
      simp only [TT.k, TT.row, TT.a, TT.len, TT.cap] at hI
      have hI' : Calls Tryz.prog 43 #[.agg #[.int .i64 tk, .slice ta tn tc], .slice a len cap, .int .i64 q] wr fun e W5 => ∃ (V : LT) (q' : Int), e = .returned (.tuple #[.agg #[.int .i64 V.node.k, .int .i64 V.node.n, .string V.node.s, .slice V.node.a V.node.len V.node.cap], .int .i64 q']) ∧
          Hid (q ≤ q' ∧ q' ≤ q + 40 ∧ IsV (fun b => wr.heap.size ≤ b ∧ b < W5.heap.size) W5 V ∧ FineT 3 (.mk tk ta tn tc tkids) V ∧ Below wr.heap.size wr W5) := hI.mono fun e W5 h => by
        obtain ⟨V, q', he, h0, h1, h2⟩ := h
        exact ⟨V, q', he, Lib.hid ⟨h0, by simpa [costN] using h1, h2⟩⟩
      have t0 : wr.cell? ⟨W3.heap.size, 0, none⟩ = some (.int .i64 tk) := by simp [World.cell?, R.typ, TT.k]
      have t1 : wr.cell? ⟨W3.heap.size, 1, none⟩ = some (.slice ta tn tc) := by simp [World.cell?, R.typ, TT.row, TT.a, TT.len, TT.cap]
      have HRR' := Lib.hid R
      have HQ := Lib.hid (And.intro hq0 hq1)
      clear R hI hT hb23 hbwr hq0 hq1 hz
      rcases (show k = 0 ∨ k = 1 ∨ k = 2 by omega) with rfl | rfl | rfl
      · go_wp2_with (go_at_call 43; refine hI'.mono ?_; clear hI'; rintro e W5 ⟨⟨⟨vk, vn, vs, va, vl, vc⟩, vkids⟩, q', rfl, HV⟩; dsimp only [LT.node]; have HR5 := Lib.hid (HRR'.out.keep HV.out.2.2.2.2); have hc := (cells12_at HR5.out.arr).1; have hf := (cells12_at HR5.out.arr).2; have c0 := hc 0; have c1 := hc 1; have c2 := hc 2; have c3 := hc 3; have f0 := hf 0 (by omega); have f1 := hf 1 (by omega); have f2 := hf 2 (by omega); have f3 := hf 3 (by omega); simp only [cells12, List.getElem?_toArray, List.getElem?_cons_succ, List.getElem?_cons_zero] at c0 c1 c2 c3; clear hc hf)
        go_roundw
        case rel =>
          have hq := HQ.out
          obtain ⟨v0, v1, v2, v3, v4⟩ := HV.out
          have hsz := HRR'.out.siz
          have hV : IsV (fun b => W3.heap.size + 2 ≤ b ∧ b < W5.heap.size) W5 (.mk ⟨vk, vn, vs, va, vl, vc⟩ vkids) ∧ Fine 3 (.mk ⟨vk, vn, vs, va, vl, vc⟩ vkids) := ⟨v2.kept (fun b hb => ⟨by omega, hb.2⟩) (fun _ _ _ => rfl), v3.1⟩
          exact ⟨1, q', (.mk ⟨vk, vn, vs, va, vl, vc⟩ vkids), y, z, by omega, rfl, rfl, by omega, by omega, HR5.out.put (o := 0) (by rfl) hV HR5.out.y HR5.out.z, Lib.hid ⟨fun _ => v3.2, fun h => by omega, fun h => by omega⟩⟩
        case measure => simp [intOf]
      · go_wp2_with (go_at_call 43; refine hI'.mono ?_; clear hI'; rintro e W5 ⟨⟨⟨vk, vn, vs, va, vl, vc⟩, vkids⟩, q', rfl, HV⟩; dsimp only [LT.node]; have HR5 := Lib.hid (HRR'.out.keep HV.out.2.2.2.2); have hc := (cells12_at HR5.out.arr).1; have hf := (cells12_at HR5.out.arr).2; have c0 := hc 4; have c1 := hc 5; have c2 := hc 6; have c3 := hc 7; have f0 := hf 4 (by omega); have f1 := hf 5 (by omega); have f2 := hf 6 (by omega); have f3 := hf 7 (by omega); simp only [cells12, List.getElem?_toArray, List.getElem?_cons_succ, List.getElem?_cons_zero] at c0 c1 c2 c3; clear hc hf)
        go_roundw
        case rel =>
          have hq := HQ.out
          obtain ⟨v0, v1, v2, v3, v4⟩ := HV.out
          have hsz := HRR'.out.siz
          have hV : IsV (fun b => W3.heap.size + 2 ≤ b ∧ b < W5.heap.size) W5 (.mk ⟨vk, vn, vs, va, vl, vc⟩ vkids) ∧ Fine 3 (.mk ⟨vk, vn, vs, va, vl, vc⟩ vkids) := ⟨v2.kept (fun b hb => ⟨by omega, hb.2⟩) (fun _ _ _ => rfl), v3.1⟩
          exact ⟨2, q', x, (.mk ⟨vk, vn, vs, va, vl, vc⟩ vkids), z, by omega, rfl, rfl, by omega, by omega, HR5.out.put (o := 4) (by rfl) HR5.out.x hV HR5.out.z, Lib.hid ⟨fun _ => HOT.out.1 (by omega), fun _ => v3.2, fun h => by omega⟩⟩
        case measure => simp [intOf]
      · go_wp2_with (go_at_call 43; refine hI'.mono ?_; clear hI'; rintro e W5 ⟨⟨⟨vk, vn, vs, va, vl, vc⟩, vkids⟩, q', rfl, HV⟩; dsimp only [LT.node]; have HR5 := Lib.hid (HRR'.out.keep HV.out.2.2.2.2); have hc := (cells12_at HR5.out.arr).1; have hf := (cells12_at HR5.out.arr).2; have c0 := hc 8; have c1 := hc 9; have c2 := hc 10; have c3 := hc 11; have f0 := hf 8 (by omega); have f1 := hf 9 (by omega); have f2 := hf 10 (by omega); have f3 := hf 11 (by omega); simp only [cells12, List.getElem?_toArray, List.getElem?_cons_succ, List.getElem?_cons_zero] at c0 c1 c2 c3; clear hc hf)
        go_roundw
        case rel =>
          have hq := HQ.out
          obtain ⟨v0, v1, v2, v3, v4⟩ := HV.out
          have hsz := HRR'.out.siz
          have hV : IsV (fun b => W3.heap.size + 2 ≤ b ∧ b < W5.heap.size) W5 (.mk ⟨vk, vn, vs, va, vl, vc⟩ vkids) ∧ Fine 3 (.mk ⟨vk, vn, vs, va, vl, vc⟩ vkids) := ⟨v2.kept (fun b hb => ⟨by omega, hb.2⟩) (fun _ _ _ => rfl), v3.1⟩
          exact ⟨3, q', x, y, (.mk ⟨vk, vn, vs, va, vl, vc⟩ vkids), by omega, rfl, rfl, by omega, by omega, HR5.out.put (o := 8) (by rfl) HR5.out.x HR5.out.y hV, Lib.hid ⟨fun _ => HOT.out.1 (by omega), fun _ => HOT.out.2.1 (by omega), fun _ => v3.2⟩⟩
        case measure => simp [intOf]
    · obtain rfl : k = 3 := by omega
      have hz := HZ.out
      have hb23 := HT.out.2.2
      have hb3r : Below W2.heap.size W2 wr := hb23.trans (R.bel.mono (by omega))
      have hr0 := (hb3r.block _ (by omega)).trans HR0.out
      have hr1 := (hb3r.block _ (by omega)).trans HR1.out
      have t0 : wr.cell? ⟨W3.heap.size, 0, none⟩ = some (.int .i64 tk) := by simp [World.cell?, R.typ, TT.k]
      have t1 : wr.cell? ⟨W3.heap.size, 1, none⟩ = some (.slice ta tn tc) := by simp [World.cell?, R.typ, TT.row, TT.a, TT.len, TT.cap]
      have hc := (cells12_at R.arr).1
      have hd := (cells12_at hr1).1
      have hf := (cells12_at hr1).2
      have c0 := hc 0
      have d0 := hd 0
      have f0 := hf 0 (by omega)
      have c1 := hc 1
      have d1 := hd 1
      have f1 := hf 1 (by omega)
      have c2 := hc 2
      have d2 := hd 2
      have f2 := hf 2 (by omega)
      have c3 := hc 3
      have d3 := hd 3
      have f3 := hf 3 (by omega)
      have c4 := hc 4
      have d4 := hd 4
      have f4 := hf 4 (by omega)
      have c5 := hc 5
      have d5 := hd 5
      have f5 := hf 5 (by omega)
      have c6 := hc 6
      have d6 := hd 6
      have f6 := hf 6 (by omega)
      have c7 := hc 7
      have d7 := hd 7
      have f7 := hf 7 (by omega)
      have c8 := hc 8
      have d8 := hd 8
      have f8 := hf 8 (by omega)
      have c9 := hc 9
      have d9 := hd 9
      have f9 := hf 9 (by omega)
      have c10 := hc 10
      have d10 := hd 10
      have f10 := hf 10 (by omega)
      have c11 := hc 11
      have d11 := hd 11
      have f11 := hf 11 (by omega)
      simp only [cells12, List.getElem?_toArray, List.getElem?_cons_succ, List.getElem?_cons_zero, zeroN] at c0 d0 c1 d1 c2 d2 c3 d3 c4 d4 c5 d5 c6 d6 c7 d7 c8 d8 c9 d9 c10 d10 c11 d11
      have e0 : wr.cell? ⟨w.heap.size, 0, none⟩ = some (.int .i64 0) := by simp [World.cell?, hr0]
      have e1 : wr.cell? ⟨w.heap.size, 1, none⟩ = some (.slice none 0 0) := by simp [World.cell?, hr0]
      have g0 : wr.frozen? ⟨w.heap.size, 0, none⟩ = false := by simp [World.frozen?, hr0]
      have g1 : wr.frozen? ⟨w.heap.size, 1, none⟩ = false := by simp [World.frozen?, hr0]
      have n1 : W3.heap.size ≠ w.heap.size := by omega
      have n2 : W3.heap.size ≠ w.heap.size + 1 := by omega
      have n3 : W3.heap.size + 1 ≠ w.heap.size := by omega
      have n4 : W3.heap.size + 1 ≠ w.heap.size + 1 := by omega
      have HA0 := Lib.hid hr0
      have HA1 := Lib.hid hr1
      have HRR' := Lib.hid R
      clear hc hd hf R hr0 hr1 hb3r hb23 hz hq0 hq1
      go_wp2
      go_region
      go_wp2
      obtain ⟨WF, hWF⟩ : ∃ WF, ((((((((((((((wr.setCell ⟨w.heap.size, 0, none⟩ (.int .i64 tk)).setCell ⟨w.heap.size, 1, none⟩ (.slice ta tn tc)).setCell ⟨w.heap.size + 1, 0, none⟩ (.int .i64 x.node.k)).setCell ⟨w.heap.size + 1, 1, none⟩ (.int .i64 x.node.n)).setCell ⟨w.heap.size + 1, 2, none⟩ (.string x.node.s)).setCell ⟨w.heap.size + 1, 3, none⟩ (.slice x.node.a x.node.len x.node.cap)).setCell ⟨w.heap.size + 1, 4, none⟩ (.int .i64 y.node.k)).setCell ⟨w.heap.size + 1, 5, none⟩ (.int .i64 y.node.n)).setCell ⟨w.heap.size + 1, 6, none⟩ (.string y.node.s)).setCell ⟨w.heap.size + 1, 7, none⟩ (.slice y.node.a y.node.len y.node.cap)).setCell ⟨w.heap.size + 1, 8, none⟩ (.int .i64 z.node.k)).setCell ⟨w.heap.size + 1, 9, none⟩ (.int .i64 z.node.n)).setCell ⟨w.heap.size + 1, 10, none⟩ (.string z.node.s)).setCell ⟨w.heap.size + 1, 11, none⟩ (.slice z.node.a z.node.len z.node.cap)).drew = WF := ⟨_, rfl⟩
      rw [hWF]
      obtain ⟨p0, p1, p2, p3, p4⟩ := put14 HA0.out HA1.out w.heap.size (Nat.le_refl _) WF hWF
      have hT := HT.out
      have hz := HZ.out
      have R := HRR'.out
      have hsz := R.siz
      have kpV : ∀ {V : LT}, IsV (fun b => W3.heap.size + 2 ≤ b ∧ b < wr.heap.size) wr V → _ := fun {V} hV => IsV.kept (S' := fun b => w.heap.size ≤ b ∧ b < wr.heap.size) (fun b hb => ⟨by omega, hb.2⟩) (fun b hb _ => p2 b (by omega) (by omega)) hV
      refine ⟨rfl, .tuple #[.agg #[.int .i64 tk, .slice ta tn tc], .agg (cells12 x.node y.node z.node)], ?_, .mk tk ta tn tc tkids, x, y, z, rfl, hT.2.1, ?_, ?_, ?_⟩
      · simp [results, Tryz.f17, go_sem, World.cell?, p0, p1, cells12]
      · intro V hV
        rw [p3]
        simp only [List.mem_cons, List.not_mem_nil, or_false] at hV
        rcases hV with rfl | rfl | rfl
        · exact ⟨kpV R.x.1, R.x.2, HOT.out.1 (by omega)⟩
        · exact ⟨kpV R.y.1, R.y.2, HOT.out.2.1 (by omega)⟩
        · exact ⟨kpV R.z.1, R.z.2, HOT.out.2.2 (by omega)⟩
      · rw [p3]
        exact hT.1.kept (fun b hb => ⟨by omega, by omega⟩) (fun b hb hlt => (p2 b (by omega) (by omega)).trans (R.bel.block b hlt))
      · exact (HB.out.trans ((hT.2.2.mono (by omega)).trans (R.bel.mono (by omega)))).trans (p4)
theorem three_any (n₀ : Nat) (a : Option Addr) (len cap : Nat) (l : List Int) (w : World) (hl : IsInts n₀ w a len l) (hn : n₀ ≤ w.heap.size) :
    Calls Tryz.prog 17 #[.slice a len cap] w fun e w' => ∃ (T : TT) (x y z : LT), e = .returned (.tuple #[.agg #[.int .i64 T.k, T.row], .agg (cells12 x.node y.node z.node)]) ∧ T.ok 3 ∧
      (∀ V ∈ [x, y, z], IsV (fun b => w.heap.size ≤ b ∧ b < w'.heap.size) w' V ∧ Fine 3 V) ∧ IsTT (fun b => w.heap.size ≤ b ∧ b < w'.heap.size) w' T ∧ Below w.heap.size w w' :=
  (threeT_any n₀ a len cap l w hl hn).mono fun e w' ⟨T, x, y, z, h0, h1, h2, h3⟩ => ⟨T, x, y, z, h0, h1, fun V hV => ⟨(h2 V hV).1, (h2 V hV).2.1⟩, h3⟩
end Go.Proofs.YtofboalgbgipoaaGreatDoor
