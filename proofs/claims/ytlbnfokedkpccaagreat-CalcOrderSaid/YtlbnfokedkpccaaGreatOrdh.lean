/- Values made of numbers: ValueOf at tuples. -/
import Derived.Test.YtlbnfokedkpccaaGreatOrdg
import Derived.OwnWalk
set_option linter.all false
namespace Go.Proofs.YtlbnfokedkpccaaGreat
open Go.RowKit Go.Shelf
attribute [local go_sem] Oper.semAt_some

/-- What holds in the loop over a tuple's parts, behind k rounds. -/
structure TupR (d : Nat) (w : World) (ta : Option Addr) (tn tc : Nat) (a : Option Addr) (len cap : Nat) (k q : Nat) (v : Value) (vs : List LT) (W : World) : Prop where
  cnt : vs.length = k
  own : W.ownsRow (w.heap.size + 4) 44 4 v k (cellsV vs)
  bel : Below w.heap.size w W
  tb : W.heap[w.heap.size]? = some (.cells #[.int .i64 2, .slice ta tn tc] 36 (0, 0))
  sb : W.heap[w.heap.size + 1]? = some (.cells #[.slice a len cap, .int .i64 q] 59 (0, 0))
  r4 : W.heap[w.heap.size + 1 + 1]? = some (.cells #[.int .i64 0, .int .i64 0, .string ⟨#[]⟩, .slice none 0 0] 44 (0, 0))
  r5 : W.heap[w.heap.size + 1 + 1 + 1]? = some (.cells #[.slice none 0 0, .int .i64 0] 59 (0, 0))
  siz : w.heap.size + 4 ≤ W.heap.size
  kids : ∀ c ∈ vs, IsV (fun b => w.heap.size + 4 ≤ b ∧ b < W.heap.size ∧ v.ownBlock ≠ some b) W c ∧ Fine d c

/-- What holds in a round, behind the call: a part, and what is left. -/
structure MidR (d : Nat) (a : Option Addr) (len cap : Nat) (wr : World) (V : LT) (q B C : Nat) (W : World) : Prop where
  bel : Below wr.heap.size wr W
  val : IsV (fun b => wr.heap.size ≤ b ∧ b < W.heap.size) W V
  fine : Fine d V
  bx : W.heap[B]? = some (.cells #[.int .i64 V.node.k, .int .i64 V.node.n, .string V.node.s, .slice V.node.a V.node.len V.node.cap] 44 (0, 0))
  nx : W.heap[C]? = some (.cells #[.slice a len cap, .int .i64 q] 59 (0, 0))
  gB : wr.heap.size ≤ B
  gC : wr.heap.size ≤ C

theorem four_al {W : World} {B : Nat} {t : TypeId} {c0 c1 c2 c3 : Value} (h : W.heap[B]? = some (.cells #[c0, c1, c2, c3] t (0, 0))) :
    ((∀ o, (W.alloc o).cell? ⟨B, 0, none⟩ = some c0) ∧ (∀ o, (W.alloc o).cell? ⟨B, 1, none⟩ = some c1) ∧ (∀ o, (W.alloc o).cell? ⟨B, 2, none⟩ = some c2) ∧ (∀ o, (W.alloc o).cell? ⟨B, 3, none⟩ = some c3)) ∧
    ((∀ o, (W.alloc o).frozen? ⟨B, 0, none⟩ = false) ∧ (∀ o, (W.alloc o).frozen? ⟨B, 1, none⟩ = false) ∧ (∀ o, (W.alloc o).frozen? ⟨B, 2, none⟩ = false) ∧ (∀ o, (W.alloc o).frozen? ⟨B, 3, none⟩ = false)) := by
  have k : ∀ o, (W.alloc o).heap[B]? = some (.cells #[c0, c1, c2, c3] t (0, 0)) := fun o => (Below.heap_alloc W o B (Array.getElem?_eq_some_iff.1 h).1).trans h
  exact ⟨⟨fun o => (cells4 (k o)).1.1, fun o => (cells4 (k o)).1.2.1, fun o => (cells4 (k o)).1.2.2.1, fun o => (cells4 (k o)).1.2.2.2⟩, fun o => (cells4 (k o)).2.1, fun o => (cells4 (k o)).2.2.1, fun o => (cells4 (k o)).2.2.2.1, fun o => (cells4 (k o)).2.2.2.2⟩
theorem two_al {W : World} {B : Nat} {t : TypeId} {c0 c1 : Value} (h : W.heap[B]? = some (.cells #[c0, c1] t (0, 0))) :
    ((∀ o, (W.alloc o).cell? ⟨B, 0, none⟩ = some c0) ∧ (∀ o, (W.alloc o).cell? ⟨B, 1, none⟩ = some c1)) ∧ ((∀ o, (W.alloc o).frozen? ⟨B, 0, none⟩ = false) ∧ (∀ o, (W.alloc o).frozen? ⟨B, 1, none⟩ = false)) := by
  have k : ∀ o, (W.alloc o).heap[B]? = some (.cells #[c0, c1] t (0, 0)) := fun o => (Below.heap_alloc W o B (Array.getElem?_eq_some_iff.1 h).1).trans h
  exact ⟨⟨fun o => (cells2 (k o)).1.1, fun o => (cells2 (k o)).1.2⟩, fun o => (cells2 (k o)).2.1, fun o => (cells2 (k o)).2.2⟩
theorem two_al_heap (w : World) (o1 o2 : Obj) : ((w.alloc o1).alloc o2).heap[w.heap.size]? = some o1 ∧ ((w.alloc o1).alloc o2).heap[w.heap.size + 1]? = some o2 := by
  refine ⟨(Below.heap_alloc _ _ _ (by simp)).trans (World.alloc_heap_new w _), ?_⟩
  have := World.alloc_heap_new (w.alloc o1) o2
  rwa [World.size_alloc] at this

theorem midOf {d : Nat} {a : Option Addr} {len cap : Nat} {wr W W3 F : World} {V : LT} {q B C : Nat} (hW : Below wr.heap.size wr W) (H3 : IsV (fun b => W.heap.size ≤ b ∧ b < W3.heap.size) W3 V ∧ Fine d V ∧ Below W.heap.size W W3)
    (hF : ∀ b, b < W3.heap.size → b ≠ B → b ≠ C → F.heap[b]? = W3.heap[b]?) (hs : W3.heap.size ≤ F.heap.size) (hbel : Below wr.heap.size wr F) (hB : wr.heap.size ≤ B ∧ (B < W.heap.size ∨ W3.heap.size ≤ B)) (hC : wr.heap.size ≤ C ∧ (C < W.heap.size ∨ W3.heap.size ≤ C))
    (bx : F.heap[B]? = some (.cells #[.int .i64 V.node.k, .int .i64 V.node.n, .string V.node.s, .slice V.node.a V.node.len V.node.cap] 44 (0, 0))) (nx : F.heap[C]? = some (.cells #[.slice a len cap, .int .i64 q] 59 (0, 0))) : MidR d a len cap wr V q B C F := by
  have h1 := hW.size
  exact ⟨hbel, IsV.kept (S := fun b => W.heap.size ≤ b ∧ b < W3.heap.size) (S' := fun b => wr.heap.size ≤ b ∧ b < F.heap.size) (A := W3) (B := F) (fun b hb => ⟨by omega, by omega⟩) (fun b hb hl => hF b hl (by omega) (by omega)) H3.1, H3.2.1, bx, nx, hB.1, hC.1⟩
section
variable {d : Nat} {a : Option Addr} {len cap : Nat} {wr W W3 : World} {q B C vl vc : Nat} {vk vn : Int} {vs' : ByteArray} {va : Option Addr} {vkids : List LT}
theorem mid1 (hW : Below wr.heap.size wr W) (H3 : IsV (fun b => W.heap.size ≤ b ∧ b < W3.heap.size) W3 (.mk ⟨vk, vn, vs', va, vl, vc⟩ vkids) ∧ Fine d (.mk ⟨vk, vn, vs', va, vl, vc⟩ vkids) ∧ Below W.heap.size W W3) :
    MidR d a len cap wr (.mk ⟨vk, vn, vs', va, vl, vc⟩ vkids) q W3.heap.size (W3.heap.size + 1) ((W3.alloc (.cells #[.int .i64 vk, .int .i64 vn, .string vs', .slice va vl vc] 44)).alloc (.cells #[.slice a len cap, .int .i64 q] 59)) := by
  have hb := hW.trans (H3.2.2.mono hW.size)
  have hs := hb.size
  exact midOf hW H3 (fun b hb' _ _ => (Below.heap_alloc _ _ b (by simp; omega)).trans (Below.heap_alloc _ _ b hb')) (by simp; omega) ((hb.alloc hb.size _).alloc (by simp; omega) _) ⟨hs, .inr (Nat.le_refl _)⟩ ⟨by omega, .inr (by omega)⟩ (two_al_heap W3 _ _).1 (two_al_heap W3 _ _).2
theorem mid2 (hW : Below wr.heap.size wr W) (H3 : IsV (fun b => W.heap.size ≤ b ∧ b < W3.heap.size) W3 (.mk ⟨vk, vn, vs', va, vl, vc⟩ vkids) ∧ Fine d (.mk ⟨vk, vn, vs', va, vl, vc⟩ vkids) ∧ Below W.heap.size W W3) :
    MidR d a len cap wr (.mk ⟨vk, vn, vs', va, vl, vc⟩ vkids) q (W3.heap.size + 1) W3.heap.size ((W3.alloc (.cells #[.slice a len cap, .int .i64 q] 59)).alloc (.cells #[.int .i64 vk, .int .i64 vn, .string vs', .slice va vl vc] 44)) := by
  have hb := hW.trans (H3.2.2.mono hW.size)
  have hs := hb.size
  exact midOf hW H3 (fun b hb' _ _ => (Below.heap_alloc _ _ b (by simp; omega)).trans (Below.heap_alloc _ _ b hb')) (by simp; omega) ((hb.alloc hb.size _).alloc (by simp; omega) _) ⟨by omega, .inr (by omega)⟩ ⟨hs, .inr (Nat.le_refl _)⟩ (two_al_heap W3 _ _).2 (two_al_heap W3 _ _).1
theorem mid3 {z0 z1 z2 z3 u0 u1 : Value} (hW : Below wr.heap.size wr W) (hz : W.heap[wr.heap.size]? = some (.cells #[z0, z1, z2, z3] 44 (0, 0))) (H3 : IsV (fun b => W.heap.size ≤ b ∧ b < W3.heap.size) W3 (.mk ⟨vk, vn, vs', va, vl, vc⟩ vkids) ∧ Fine d (.mk ⟨vk, vn, vs', va, vl, vc⟩ vkids) ∧ Below W.heap.size W W3) :
    MidR d a len cap wr (.mk ⟨vk, vn, vs', va, vl, vc⟩ vkids) q wr.heap.size W3.heap.size (((((((W3.alloc (.cells #[u0, u1] 59)).setCell ⟨wr.heap.size, 0, none⟩ (.int .i64 vk)).setCell ⟨wr.heap.size, 1, none⟩ (.int .i64 vn)).setCell ⟨wr.heap.size, 2, none⟩ (.string vs')).setCell ⟨wr.heap.size, 3, none⟩ (.slice va vl vc)).setCell ⟨W3.heap.size, 0, none⟩ (.slice a len cap)).setCell ⟨W3.heap.size, 1, none⟩ (.int .i64 q)) := by
  have hb := hW.trans (H3.2.2.mono hW.size)
  have hs := hb.size
  have hzs := (Array.getElem?_eq_some_iff.1 hz).1
  have h3 := H3.2.2.size
  exact midOf hW H3 (fun b hb' n1 n2 => (heap2 n2).trans ((heap4 n1).trans (Below.heap_alloc W3 _ b hb'))) (by rw [size2, size4]; simp) (below2 (below4 (hb.alloc hb.size _) (Nat.le_refl _)) hs) ⟨Nat.le_refl _, .inl hzs⟩ ⟨hs, .inr (Nat.le_refl _)⟩
    ((heap2 (by omega)).trans (setAll4 ((Below.heap_alloc W3 _ _ (by omega)).trans (blk H3.2.2 hz)))) (setAll2 ((heap4 (by omega)).trans (World.alloc_heap_new W3 _)))
theorem mid4 {z0 z1 z2 z3 u0 u1 : Value} (hW : Below wr.heap.size wr W) (hz : W.heap[B]? = some (.cells #[z0, z1, z2, z3] 44 (0, 0))) (hu : W.heap[C]? = some (.cells #[u0, u1] 59 (0, 0))) (hB : wr.heap.size ≤ B) (hC : wr.heap.size ≤ C) (hne : B ≠ C) (H3 : IsV (fun b => W.heap.size ≤ b ∧ b < W3.heap.size) W3 (.mk ⟨vk, vn, vs', va, vl, vc⟩ vkids) ∧ Fine d (.mk ⟨vk, vn, vs', va, vl, vc⟩ vkids) ∧ Below W.heap.size W W3) :
    MidR d a len cap wr (.mk ⟨vk, vn, vs', va, vl, vc⟩ vkids) q B C ((((((W3.setCell ⟨B, 0, none⟩ (.int .i64 vk)).setCell ⟨B, 1, none⟩ (.int .i64 vn)).setCell ⟨B, 2, none⟩ (.string vs')).setCell ⟨B, 3, none⟩ (.slice va vl vc)).setCell ⟨C, 0, none⟩ (.slice a len cap)).setCell ⟨C, 1, none⟩ (.int .i64 q)) := by
  have hb := hW.trans (H3.2.2.mono hW.size)
  have hs := hb.size
  have hzs := (Array.getElem?_eq_some_iff.1 hz).1
  have hus := (Array.getElem?_eq_some_iff.1 hu).1
  exact midOf hW H3 (fun b hb' n1 n2 => (heap2 n2).trans (heap4 n1)) (by rw [size2, size4]; exact Nat.le_refl _) (below2 (below4 hb hB) hC) ⟨hB, .inl hzs⟩ ⟨hC, .inl hus⟩
    ((heap2 hne).trans (setAll4 (blk H3.2.2 hz))) (setAll2 ((heap4 hne.symm).trans (blk H3.2.2 hu)))
theorem mid5 {u0 u1 : Value} (hW : Below wr.heap.size wr W) (hu : W.heap[wr.heap.size]? = some (.cells #[u0, u1] 59 (0, 0))) (H3 : IsV (fun b => W.heap.size ≤ b ∧ b < W3.heap.size) W3 (.mk ⟨vk, vn, vs', va, vl, vc⟩ vkids) ∧ Fine d (.mk ⟨vk, vn, vs', va, vl, vc⟩ vkids) ∧ Below W.heap.size W W3) :
    MidR d a len cap wr (.mk ⟨vk, vn, vs', va, vl, vc⟩ vkids) q W3.heap.size wr.heap.size (((W3.alloc (.cells #[.int .i64 vk, .int .i64 vn, .string vs', .slice va vl vc] 44)).setCell ⟨wr.heap.size, 0, none⟩ (.slice a len cap)).setCell ⟨wr.heap.size, 1, none⟩ (.int .i64 q)) := by
  have hb := hW.trans (H3.2.2.mono hW.size)
  have hs := hb.size
  have hus := (Array.getElem?_eq_some_iff.1 hu).1
  have h3 := H3.2.2.size
  exact midOf hW H3 (fun b hb' n1 n2 => (heap2 n2).trans (Below.heap_alloc W3 _ b hb')) (by rw [size2]; simp) (below2 (hb.alloc hb.size _) (Nat.le_refl _)) ⟨hs, .inr (Nat.le_refl _)⟩ ⟨Nat.le_refl _, .inl hus⟩
    ((heap2 (by omega)).trans (World.alloc_heap_new W3 _)) (setAll2 ((Below.heap_alloc W3 _ _ (by omega)).trans (blk H3.2.2 hu)))
end
theorem TupR.lt {d : Nat} {w : World} {ta : Option Addr} {tn tc : Nat} {a : Option Addr} {len cap k q : Nat} {v : Value} {vs : List LT} {wr : World} (R : TupR d w ta tn tc a len cap k q v vs wr) : ∀ g, v.ownBlock = some g → w.heap.size + 4 ≤ g ∧ g < wr.heap.size := by
  intro g hg
  refine ⟨ownBlock_ge R.own g hg, ?_⟩
  rcases R.own.2 with ⟨rfl, _⟩ | ⟨g', cap, cur, rfl, _, hh, _⟩
  · simp [Value.ownBlock] at hg
  · simp [Value.ownBlock] at hg; rw [← hg]; exact (Array.getElem?_eq_some_iff.1 hh).1
theorem TupR.step {d : Nat} {w : World} {ta : Option Addr} {tn tc : Nat} {a : Option Addr} {len cap k q q' B C g cp : Nat} {v : Value} {vs : List LT} {wr wc Wa w1 : World} {V : LT} (R : TupR d w ta tn tc a len cap k q v vs wr) (M : MidR d a len cap wr V q' B C wc)
    (ha : Below wc.heap.size wc Wa) (hg : Wa.grownBy w1 v.ownBlock) (hown : w1.ownsRow (w.heap.size + 4) 44 4 (.slice (some ⟨g, 0, none⟩) (k + 1) cp) (k + 1) (cellsV vs ++ nodeCells V.node)) (hat : v.ownBlock = some g ∨ wc.heap.size ≤ g) :
    TupR d w ta tn tc a len cap (k + 1) q' (.slice (some ⟨g, 0, none⟩) (k + 1) cp) (vs ++ [V]) ((w1.setCell ⟨w.heap.size + 1, 0, none⟩ (.slice a len cap)).setCell ⟨w.heap.size + 1, 1, none⟩ (.int .i64 q')) := by
  have hlt := R.lt
  have h1 := R.bel.size
  have h2 := M.bel.size
  have h3 := ha.size
  have h4 := hg.size
  have hz := R.siz
  have k6 : ∀ b, b < wc.heap.size → v.ownBlock ≠ some b → w1.heap[b]? = wc.heap[b]? := fun b hb hn => (hg.block b (by omega) (fun e => hn e.symm)).trans (ha.block b hb)
  have ks : ∀ b, b ≠ w.heap.size + 1 → ((w1.setCell ⟨w.heap.size + 1, 0, none⟩ (.slice a len cap)).setCell ⟨w.heap.size + 1, 1, none⟩ (.int .i64 q')).heap[b]? = w1.heap[b]? := fun b hb => heap2 hb
  have kw : ∀ b o, b < w.heap.size + 4 → wr.heap[b]? = some o → w1.heap[b]? = some o := fun b o hb ho => (k6 b (by omega) (fun e => by have := hlt b e; omega)).trans (blk M.bel ho)
  refine ⟨by simp [R.cnt], ?_, ?_, (ks _ (by omega)).trans (kw _ _ (by omega) R.tb), setAll2 (kw _ _ (by omega) R.sb), (ks _ (by omega)).trans (kw _ _ (by omega) R.r4), (ks _ (by omega)).trans (kw _ _ (by omega) R.r5), by rw [size2]; omega, ?_⟩
  · rw [cellsV_snoc]
    exact ownsRow_kept hown (fun g hg1 _ => ks g (by omega))
  · exact below2 (((R.bel.trans (M.bel.mono h1)).trans (ha.mono (by omega))).grown hg (by omega) (fun j e => by have := hlt j e; omega)) (by omega)
  · intro c hc
    rcases List.mem_append.1 hc with hc | hc
    · obtain ⟨hv, hf⟩ := R.kids c hc
      refine ⟨hv.kept (fun b hb => ⟨hb.1, by rw [size2]; omega, fun e => ?_⟩) (fun b hb hl => (ks b (by omega)).trans ((k6 b (by omega) hb.2.2).trans (M.bel.block b hl))), hf⟩
      simp only [Value.ownBlock, Option.some.injEq] at e
      rcases hat with hat | hat
      · exact hb.2.2 (by rw [hat, e])
      · omega
    · rw [List.mem_singleton.1 hc]
      refine ⟨M.val.kept (fun b hb => ⟨by omega, by rw [size2]; omega, fun e => ?_⟩) (fun b hb hl => (ks b (by omega)).trans (k6 b hl (fun e => by have := hlt b e; omega))), M.fine⟩
      simp only [Value.ownBlock, Option.some.injEq] at e
      rcases hat with hat | hat
      · have := hlt g hat; omega
      · omega

/-- The value that is handed on: a tuple. -/
theorem tupEnd {d : Nat} {w : World} {ta : Option Addr} {tn tc : Nat} {a : Option Addr} {len cap k q : Nat} {v : Value} {vs : List LT} {wr W W5 : World} {g cp : Nat} {a' b' c' d' e' f' : Value} (R : TupR d w ta tn tc a len cap k q v vs wr) (hk : k ≤ 3) (hW : Below wr.heap.size wr W)
    (H5 : W.heap.size ≤ g ∧ g < W5.heap.size ∧ Below W.heap.size W W5 ∧ ∀ (i : Nat) (c : LT), vs[i]? = some c → W5.cell? ⟨g, i * 4, none⟩ = some (.int .i64 c.node.k) ∧ W5.cell? ⟨g, i * 4 + 1, none⟩ = some (.int .i64 c.node.n) ∧ W5.cell? ⟨g, i * 4 + 2, none⟩ = some (.string c.node.s) ∧ W5.cell? ⟨g, i * 4 + 3, none⟩ = some (.slice c.node.a c.node.len c.node.cap)) :
    IsV (fun b => w.heap.size ≤ b ∧ b < ((((((W5.setCell ⟨w.heap.size + 1 + 1, 0, none⟩ a').setCell ⟨w.heap.size + 1 + 1, 1, none⟩ b').setCell ⟨w.heap.size + 1 + 1, 2, none⟩ c').setCell ⟨w.heap.size + 1 + 1, 3, none⟩ d').setCell ⟨w.heap.size + 1 + 1 + 1, 0, none⟩ e').setCell ⟨w.heap.size + 1 + 1 + 1, 1, none⟩ f').heap.size) ((((((W5.setCell ⟨w.heap.size + 1 + 1, 0, none⟩ a').setCell ⟨w.heap.size + 1 + 1, 1, none⟩ b').setCell ⟨w.heap.size + 1 + 1, 2, none⟩ c').setCell ⟨w.heap.size + 1 + 1, 3, none⟩ d').setCell ⟨w.heap.size + 1 + 1 + 1, 0, none⟩ e').setCell ⟨w.heap.size + 1 + 1 + 1, 1, none⟩ f') (.mk ⟨2, 0, ByteArray.empty, some ⟨g, 0, none⟩, k, cp⟩ vs) ∧
    Fine (d + 1) (.mk ⟨2, 0, ByteArray.empty, some ⟨g, 0, none⟩, k, cp⟩ vs) ∧ Below w.heap.size w ((((((W5.setCell ⟨w.heap.size + 1 + 1, 0, none⟩ a').setCell ⟨w.heap.size + 1 + 1, 1, none⟩ b').setCell ⟨w.heap.size + 1 + 1, 2, none⟩ c').setCell ⟨w.heap.size + 1 + 1, 3, none⟩ d').setCell ⟨w.heap.size + 1 + 1 + 1, 0, none⟩ e').setCell ⟨w.heap.size + 1 + 1 + 1, 1, none⟩ f') := by
  obtain ⟨h5, h6, hb, hc⟩ := H5
  have h1 := R.bel.size
  have h2 := hW.size
  have h3 := hb.size
  have hn := R.cnt
  have hB : Below wr.heap.size wr W5 := hW.trans (hb.mono h2)
  have hg := R.siz
  have hk' : ∀ b, b ≠ w.heap.size + 1 + 1 → b ≠ w.heap.size + 1 + 1 + 1 → ((((((W5.setCell ⟨w.heap.size + 1 + 1, 0, none⟩ a').setCell ⟨w.heap.size + 1 + 1, 1, none⟩ b').setCell ⟨w.heap.size + 1 + 1, 2, none⟩ c').setCell ⟨w.heap.size + 1 + 1, 3, none⟩ d').setCell ⟨w.heap.size + 1 + 1 + 1, 0, none⟩ e').setCell ⟨w.heap.size + 1 + 1 + 1, 1, none⟩ f').heap[b]? = W5.heap[b]? := fun b n1 n2 => (heap2 n2).trans (heap4 n1)
  refine ⟨.mk _ _ hn.symm (by simp [maxLen]) (show k * 32 ≤ 140737488351232 by omega) (fun i c hi => ?_) (fun c hm => ?_), Fine.node d _ _ (by omega) (by simp [okNode]; omega) (by simp) (show k ≤ 8 by omega) (fun c hm => (R.kids c hm).2), below2 (below4 (R.bel.trans (hB.mono h1)) (by omega)) (by omega)⟩
  · obtain ⟨g0, g1, g2, g3⟩ := hc i c hi
    have hh := hk' g (by omega) (by omega)
    exact ⟨g, rfl, ⟨by omega, by rw [size2, size4]; omega⟩, (World.cell?_of_block (a := ⟨_, _, none⟩) hh).trans g0, (World.cell?_of_block (a := ⟨_, _, none⟩) hh).trans g1, (World.cell?_of_block (a := ⟨_, _, none⟩) hh).trans g2, (World.cell?_of_block (a := ⟨_, _, none⟩) hh).trans g3⟩
  · exact (R.kids c hm).1.kept (fun b hb' => ⟨by omega, by rw [size2, size4]; omega⟩) (fun b hb' hl => (hk' b (by omega) (by omega)).trans (hB.block b hl))

set_option maxRecDepth 100000 in
set_option maxHeartbeats 4000000 in
theorem ValueOf_tuple (n₀ : Nat) (a : Option Addr) (len cap : Nat) (l : List Int) (d : Nat) (S : Nat → Prop) (ta : Option Addr) (tn tc : Nat) (kids : List TT) (at_ : Nat) (w : World) (hl : IsInts n₀ w a len l) (hn : n₀ ≤ w.heap.size)
    (hk1 : 1 ≤ kids.length) (hk3 : kids.length ≤ 3) (hS : ∀ b, S b → b < w.heap.size) (hTT : IsTT S w (.mk 2 ta tn tc kids))
    (ih : ∀ c ∈ kids, ∀ (q : Nat) (W : World), Below w.heap.size w W → Calls Tryz.prog 50 #[.agg #[.int .i64 c.k, c.row], streamV a len cap q] W (VofR d a len cap W)) :
    Calls Tryz.prog 50 #[.agg #[.int .i64 2, .slice ta tn tc], streamV a len cap at_] w (VofR (d + 1) a len cap w) := by
  cases hTT with
  | mk _ _ _ _ _ hlen hm hc hk =>
  have HI := Lib.hid ih
  have HC := Lib.hid hc
  have HS := Lib.hid hS
  have hl3 : tn ≤ 3 := by omega
  have HLen := Lib.hid (And.intro hlen (And.intro hk1 hk3))
  unfold streamV
  clear hl hn ih hc hk hS hlen hk1 hk3 hm
  have HB := boxes w #[.int .i64 2, .slice ta tn tc] #[.slice a len cap, .int .i64 at_] #[.int .i64 0, .int .i64 0, .string ⟨#[]⟩, .slice none 0 0] #[.slice none 0 0, .int .i64 0] 36 59 44 59
  have hst : TupR d w ta tn tc a len cap 0 at_ (.slice none 0 0) [] ((((w.alloc (.cells #[.int .i64 2, .slice ta tn tc] 36)).alloc (.cells #[.slice a len cap, .int .i64 at_] 59)).alloc (.cells #[.int .i64 0, .int .i64 0, .string ⟨#[]⟩, .slice none 0 0] 44)).alloc (.cells #[.slice none 0 0, .int .i64 0] 59)) :=
    ⟨rfl, ⟨rfl, .inl ⟨rfl, rfl⟩⟩, HB.1, HB.2.1, HB.2.2.1, HB.2.2.2.1, HB.2.2.2.2, by simp, fun c hc => by simp at hc⟩
  clear HB
  obtain ⟨W0, hW0⟩ : ∃ W0, ((((w.alloc (.cells #[.int .i64 2, .slice ta tn tc] 36)).alloc (.cells #[.slice a len cap, .int .i64 at_] 59)).alloc (.cells #[.int .i64 0, .int .i64 0, .string ⟨#[]⟩, .slice none 0 0] 44)).alloc (.cells #[.slice none 0 0, .int .i64 0] 59)) = W0 := ⟨_, rfl⟩
  have HST := Lib.hid hst
  have HW0 := Lib.hid hW0
  clear hst hW0
  go_enter Tryz.func50, Tryz.ntmps50
  go_wp2_with (fail)
  rw [HW0.out]
  rw [HW0.out] at HST
  go_loopw [13, 14] (fun v i wr => ∃ (k q : Nat) (vs : List LT), k ≤ tn ∧ i = .int .i64 k ∧ Hid (TupR d w ta tn tc a len cap k q v vs wr)) (fun _ i _ => tn - (intOf i).toNat)
  case atStart => exact ⟨0, at_, [], Nat.zero_le _, rfl, HST⟩
  case round =>
    obtain ⟨k, q, vs, hk, rfl, R⟩ := hrel
    clear HST HW0
    obtain ⟨⟨t0, t1⟩, _⟩ := cells2 R.out.tb
    by_cases hlt : k < tn
    · have hkl : k < kids.length := by have := HLen.out; omega
      obtain ⟨c, hcc⟩ : ∃ c, kids[k]? = some c := ⟨kids[k], by simp [hkl]⟩
      obtain ⟨b, rfl, hSb, e0, e1⟩ := HC.out k c hcc
      have hbw := HS.out b hSb
      have f0 := (R.out.bel.cell (p := ⟨b, k * 2, none⟩) hbw).trans e0
      have f1 := (R.out.bel.cell (p := ⟨b, k * 2 + 1, none⟩) hbw).trans e1
      have hI := HI.out c (List.mem_of_getElem? hcc) q
      obtain ⟨ck, ca, cl, cc, ckids⟩ := c
      simp only [TT.k, TT.row, TT.a, TT.len, TT.cap] at f0 f1 hI
      obtain ⟨⟨s0, s1⟩, s2, s3⟩ := cells2 R.out.sb
      have HI2 : Hid (∀ W, Below wr.heap.size wr W → Calls Tryz.prog 50 #[.agg #[.int .i64 ck, .slice ca cl cc], .agg #[.slice a len cap, .int .i64 q]] W fun e W3 => ∃ (V : LT) (q' : Nat), e = .returned (.tuple #[.agg #[.int .i64 V.node.k, .int .i64 V.node.n, .string V.node.s, .slice V.node.a V.node.len V.node.cap], .agg #[.slice a len cap, .int .i64 q']]) ∧
          Hid (IsV (fun b => W.heap.size ≤ b ∧ b < W3.heap.size) W3 V ∧ Fine d V ∧ Below W.heap.size W W3) ∧ (W3.cell? ⟨w.heap.size, 1, none⟩ = some (.slice (some ⟨b, 0, none⟩) tn tc) ∧ W3.cell? ⟨b, k * 2, none⟩ = some (.int .i64 ck) ∧ W3.cell? ⟨b, k * 2 + 1, none⟩ = some (.slice ca cl cc) ∧ W3.cell? ⟨w.heap.size + 1, 0, none⟩ = some (.slice a len cap) ∧ W3.cell? ⟨w.heap.size + 1, 1, none⟩ = some (.int .i64 q))) := Lib.hid fun W hW => (hI W (R.out.bel.trans (hW.mono R.out.bel.size))).mono fun e W3 h => by
        obtain ⟨V, q', he, h1, h2, h3⟩ := h
        have hB := hW.trans (h3.mono hW.size)
        have kp : ∀ {b o : Nat} {v : Value}, wr.cell? ⟨b, o, none⟩ = some v → W3.cell? ⟨b, o, none⟩ = some v := fun {b o v} hc => (hB.cell (p := ⟨b, o, none⟩) (cell_lt hc)).trans hc
        exact ⟨V, q', he, Lib.hid ⟨h1, h2, h3⟩, kp t1, kp f0, kp f1, kp s0, kp s1⟩
      have g1 : wr.heap.size ≠ w.heap.size := by have := R.out.siz; omega
      have g2 : w.heap.size ≠ wr.heap.size := by have := R.out.siz; omega
      have g3 : wr.heap.size ≠ w.heap.size + 1 := by have := R.out.siz; omega
      have g4 : w.heap.size + 1 ≠ wr.heap.size := by have := R.out.siz; omega
      have g5 : wr.heap.size ≠ b := by have := R.out.siz; omega
      have g6 : b ≠ wr.heap.size := by have := R.out.siz; omega
      have g1' : wr.heap.size + 1 ≠ w.heap.size := by have := R.out.siz; omega
      have g2' : w.heap.size ≠ wr.heap.size + 1 := by have := R.out.siz; omega
      have g3' : wr.heap.size + 1 ≠ w.heap.size + 1 := by have := R.out.siz; omega
      have g4' : w.heap.size + 1 ≠ wr.heap.size + 1 := by have := R.out.siz; omega
      have g5' : wr.heap.size + 1 ≠ b := by have := R.out.siz; omega
      have g6' : b ≠ wr.heap.size + 1 := by have := R.out.siz; omega
      clear hI hcc e0 e1 hkl s2 s3 hSb hbw
      go_upto_region 16 with (fail)
      go_cut [15, 16] (fun s15 s16 wc => ∃ (V : LT) (q' B C : Nat), s15 = .pointer (some ⟨B, 0, none⟩) ∧ s16 = .pointer (some ⟨C, 0, none⟩) ∧ Hid (MidR d a len cap wr V q' B C wc))
      case first =>
        go_region_held3 (fun w' => w'.cell? ⟨w.heap.size, 1, none⟩ = some (.slice (some ⟨b, 0, none⟩) tn tc) ∧ w'.cell? ⟨b, k * 2, none⟩ = some (.int .i64 ck) ∧ w'.cell? ⟨b, k * 2 + 1, none⟩ = some (.slice ca cl cc) ∧ w'.cell? ⟨w.heap.size + 1, 0, none⟩ = some (.slice a len cap) ∧ w'.cell? ⟨w.heap.size + 1, 1, none⟩ = some (.int .i64 q))
          (go_keep)
          (first
            | (go_at_call 50; refine (HI2.out _ ?_).mono ?_; (first | exact Below.refl _ _ | exact (Below.refl _ _).drew); rintro e W3 ⟨⟨⟨vk, vn, vs', va, vl, vc⟩, vkids⟩, q', rfl, H3, ⟨q0, q1, q2, q3, q4⟩⟩; dsimp only [LT.node]; have ne1 := World.new_ne W3 _ q0; have ne2 := World.new_ne W3 _ q1; have ne3 := World.new_ne W3 _ q3; dsimp only at ne1 ne2 ne3; have ne1s := ne1.symm; have ne2s := ne2.symm; have ne3s := ne3.symm)
            | (go_at_call 50; refine (HI2.out _ ?_).mono ?_; (first | exact (Below.refl wr.heap.size wr).alloc (Nat.le_refl _) (.cells #[.int .i64 0, .int .i64 0, .string ByteArray.empty, .slice none 0 0] 44) | exact ((Below.refl wr.heap.size wr).alloc (Nat.le_refl _) (.cells #[.int .i64 0, .int .i64 0, .string ByteArray.empty, .slice none 0 0] 44)).drew | exact ((Below.refl wr.heap.size wr).drew.alloc (Nat.le_refl _) (.cells #[.int .i64 0, .int .i64 0, .string ByteArray.empty, .slice none 0 0] 44)) | exact ((Below.refl wr.heap.size wr).drew.alloc (Nat.le_refl _) (.cells #[.int .i64 0, .int .i64 0, .string ByteArray.empty, .slice none 0 0] 44)).drew); rintro e W3 ⟨⟨⟨vk, vn, vs', va, vl, vc⟩, vkids⟩, q', rfl, H3, ⟨q0, q1, q2, q3, q4⟩⟩; dsimp only [LT.node]; have ne1 := World.new_ne W3 _ q0; have ne2 := World.new_ne W3 _ q1; have ne3 := World.new_ne W3 _ q3; dsimp only at ne1 ne2 ne3; have ne1s := ne1.symm; have ne2s := ne2.symm; have ne3s := ne3.symm; obtain ⟨⟨z0, z1, z2, z3⟩, y0, y1, y2, y3⟩ := four_al (blk H3.out.2.2 (World.alloc_heap_new wr (.cells #[.int .i64 0, .int .i64 0, .string ByteArray.empty, .slice none 0 0] 44))); obtain ⟨⟨z0', z1', z2', z3'⟩, y0', y1', y2', y3'⟩ := cells4 (blk H3.out.2.2 (World.alloc_heap_new wr (.cells #[.int .i64 0, .int .i64 0, .string ByteArray.empty, .slice none 0 0] 44))); have nz := Nat.ne_of_lt (cell_lt z0'); have nz' := nz.symm)
            | (go_at_call 50; refine (HI2.out _ ?_).mono ?_; (first | exact (Below.refl wr.heap.size wr).alloc (Nat.le_refl _) (.cells #[.slice none 0 0, .int .i64 0] 59) | exact ((Below.refl wr.heap.size wr).alloc (Nat.le_refl _) (.cells #[.slice none 0 0, .int .i64 0] 59)).drew | exact ((Below.refl wr.heap.size wr).drew.alloc (Nat.le_refl _) (.cells #[.slice none 0 0, .int .i64 0] 59)) | exact ((Below.refl wr.heap.size wr).drew.alloc (Nat.le_refl _) (.cells #[.slice none 0 0, .int .i64 0] 59)).drew); rintro e W3 ⟨⟨⟨vk, vn, vs', va, vl, vc⟩, vkids⟩, q', rfl, H3, ⟨q0, q1, q2, q3, q4⟩⟩; dsimp only [LT.node]; have ne1 := World.new_ne W3 _ q0; have ne2 := World.new_ne W3 _ q1; have ne3 := World.new_ne W3 _ q3; dsimp only at ne1 ne2 ne3; have ne1s := ne1.symm; have ne2s := ne2.symm; have ne3s := ne3.symm; obtain ⟨⟨z0, z1⟩, y0, y1⟩ := two_al (blk H3.out.2.2 (World.alloc_heap_new wr (.cells #[.slice none 0 0, .int .i64 0] 59))); obtain ⟨⟨z0', z1'⟩, y0', y1'⟩ := cells2 (blk H3.out.2.2 (World.alloc_heap_new wr (.cells #[.slice none 0 0, .int .i64 0] 59))); have nz := Nat.ne_of_lt (cell_lt z0'); have nz' := nz.symm)
            | (go_at_call 50; refine (HI2.out _ ?_).mono ?_; (first | exact ((Below.refl wr.heap.size wr).alloc (Nat.le_refl _) (.cells #[.int .i64 0, .int .i64 0, .string ByteArray.empty, .slice none 0 0] 44)).alloc (by simp) (.cells #[.slice none 0 0, .int .i64 0] 59) | exact (((Below.refl wr.heap.size wr).alloc (Nat.le_refl _) (.cells #[.int .i64 0, .int .i64 0, .string ByteArray.empty, .slice none 0 0] 44)).alloc (by simp) (.cells #[.slice none 0 0, .int .i64 0] 59)).drew); rintro e W3 ⟨⟨⟨vk, vn, vs', va, vl, vc⟩, vkids⟩, q', rfl, H3, ⟨q0, q1, q2, q3, q4⟩⟩; dsimp only [LT.node]; have ne1 := World.new_ne W3 _ q0; have ne2 := World.new_ne W3 _ q1; have ne3 := World.new_ne W3 _ q3; dsimp only at ne1 ne2 ne3; have ne1s := ne1.symm; have ne2s := ne2.symm; have ne3s := ne3.symm; obtain ⟨⟨z0, z1, z2, z3⟩, y0, y1, y2, y3⟩ := cells4 (blk H3.out.2.2 (two_al_heap wr (.cells #[.int .i64 0, .int .i64 0, .string ByteArray.empty, .slice none 0 0] 44) (.cells #[.slice none 0 0, .int .i64 0] 59)).1); obtain ⟨⟨x0, x1⟩, o0, o1⟩ := cells2 (blk H3.out.2.2 (two_al_heap wr (.cells #[.int .i64 0, .int .i64 0, .string ByteArray.empty, .slice none 0 0] 44) (.cells #[.slice none 0 0, .int .i64 0] 59)).2))
            | (go_at_call 50; refine (HI2.out _ ?_).mono ?_; (first | exact ((Below.refl wr.heap.size wr).alloc (Nat.le_refl _) (.cells #[.slice none 0 0, .int .i64 0] 59)).alloc (by simp) (.cells #[.int .i64 0, .int .i64 0, .string ByteArray.empty, .slice none 0 0] 44) | exact (((Below.refl wr.heap.size wr).alloc (Nat.le_refl _) (.cells #[.slice none 0 0, .int .i64 0] 59)).alloc (by simp) (.cells #[.int .i64 0, .int .i64 0, .string ByteArray.empty, .slice none 0 0] 44)).drew); rintro e W3 ⟨⟨⟨vk, vn, vs', va, vl, vc⟩, vkids⟩, q', rfl, H3, ⟨q0, q1, q2, q3, q4⟩⟩; dsimp only [LT.node]; have ne1 := World.new_ne W3 _ q0; have ne2 := World.new_ne W3 _ q1; have ne3 := World.new_ne W3 _ q3; dsimp only at ne1 ne2 ne3; have ne1s := ne1.symm; have ne2s := ne2.symm; have ne3s := ne3.symm; obtain ⟨⟨x0, x1⟩, o0, o1⟩ := cells2 (blk H3.out.2.2 (two_al_heap wr (.cells #[.slice none 0 0, .int .i64 0] 59) (.cells #[.int .i64 0, .int .i64 0, .string ByteArray.empty, .slice none 0 0] 44)).1); obtain ⟨⟨z0, z1, z2, z3⟩, y0, y1, y2, y3⟩ := cells4 (blk H3.out.2.2 (two_al_heap wr (.cells #[.slice none 0 0, .int .i64 0] 59) (.cells #[.int .i64 0, .int .i64 0, .string ByteArray.empty, .slice none 0 0] 44)).2)))

        all_goals (go_step; go_step; go_meet)
        · exact ⟨.mk ⟨vk, vn, vs', va, vl, vc⟩ vkids, q', _, _, rfl, rfl, Lib.hid (mid1 (by first | exact Below.refl _ _ | exact (Below.refl _ _).drew) H3.out)⟩
        · exact ⟨.mk ⟨vk, vn, vs', va, vl, vc⟩ vkids, q', _, _, rfl, rfl, Lib.hid (mid2 (by first | exact Below.refl _ _ | exact (Below.refl _ _).drew) H3.out)⟩
        · exact ⟨.mk ⟨vk, vn, vs', va, vl, vc⟩ vkids, q', _, _, rfl, rfl, Lib.hid (mid3 (W := (wr.alloc (.cells #[.int .i64 0, .int .i64 0, .string ByteArray.empty, .slice none 0 0] 44)).drew) (by first | exact (Below.refl _ _).alloc (Nat.le_refl _) _ | exact ((Below.refl _ _).alloc (Nat.le_refl _) _).drew) (World.alloc_heap_new wr (.cells #[.int .i64 0, .int .i64 0, .string ByteArray.empty, .slice none 0 0] 44)) H3.out)⟩
        · exact ⟨.mk ⟨vk, vn, vs', va, vl, vc⟩ vkids, q', wr.heap.size, wr.heap.size + 1, rfl, rfl, Lib.hid (mid4 (W := ((wr.alloc (.cells #[.int .i64 0, .int .i64 0, .string ByteArray.empty, .slice none 0 0] 44)).alloc (.cells #[.slice none 0 0, .int .i64 0] 59)).drew) (by first | exact ((Below.refl _ _).alloc (Nat.le_refl _) _).alloc (by simp) _ | exact (((Below.refl _ _).alloc (Nat.le_refl _) _).alloc (by simp) _).drew) (two_al_heap wr (.cells #[.int .i64 0, .int .i64 0, .string ByteArray.empty, .slice none 0 0] 44) (.cells #[.slice none 0 0, .int .i64 0] 59)).1 (two_al_heap wr (.cells #[.int .i64 0, .int .i64 0, .string ByteArray.empty, .slice none 0 0] 44) (.cells #[.slice none 0 0, .int .i64 0] 59)).2 (Nat.le_refl _) (by omega) (by omega) H3.out)⟩
        · exact ⟨.mk ⟨vk, vn, vs', va, vl, vc⟩ vkids, q', _, _, rfl, rfl, Lib.hid (mid5 (W := (wr.alloc (.cells #[.slice none 0 0, .int .i64 0] 59)).drew) (by first | exact (Below.refl _ _).alloc (Nat.le_refl _) _ | exact ((Below.refl _ _).alloc (Nat.le_refl _) _).drew) (World.alloc_heap_new wr (.cells #[.slice none 0 0, .int .i64 0] 59)) H3.out)⟩
        · exact ⟨.mk ⟨vk, vn, vs', va, vl, vc⟩ vkids, q', wr.heap.size + 1, wr.heap.size, rfl, rfl, Lib.hid (mid4 (W := ((wr.alloc (.cells #[.slice none 0 0, .int .i64 0] 59)).alloc (.cells #[.int .i64 0, .int .i64 0, .string ByteArray.empty, .slice none 0 0] 44)).drew) (by first | exact ((Below.refl _ _).alloc (Nat.le_refl _) _).alloc (by simp) _ | exact (((Below.refl _ _).alloc (Nat.le_refl _) _).alloc (by simp) _).drew) (two_al_heap wr (.cells #[.slice none 0 0, .int .i64 0] 59) (.cells #[.int .i64 0, .int .i64 0, .string ByteArray.empty, .slice none 0 0] 44)).2 (two_al_heap wr (.cells #[.slice none 0 0, .int .i64 0] 59) (.cells #[.int .i64 0, .int .i64 0, .string ByteArray.empty, .slice none 0 0] 44)).1 (by omega) (Nat.le_refl _) (by omega) H3.out)⟩
      case rest =>
        obtain ⟨⟨⟨vk, vn, vs', va, vl, vc⟩, vkids⟩, q', B, C, rfl, rfl, HM⟩ := hcut
        obtain ⟨sva, svc, rfl⟩ := isSlice R.out.own
        have hlt17 := R.out.lt
        have hszM := HM.out.bel.size
        have hszR := R.out.siz
        have hgB := HM.out.gB
        have hgC := HM.out.gC
        have hbx := HM.out.bx
        dsimp only [LT.node] at hbx
        obtain ⟨⟨v0, v1, v2, v3⟩, _⟩ := cells4 hbx
        obtain ⟨⟨n0, n1⟩, _⟩ := cells2 HM.out.nx
        have hwC := (Array.getElem?_eq_some_iff.1 HM.out.nx).1
        obtain ⟨⟨n0a, n1a⟩, _⟩ := two_al HM.out.nx
        have hsbc := blk HM.out.bel R.out.sb
        obtain ⟨⟨s0', s1'⟩, s2', s3'⟩ := cells2 hsbc
        have hown := ownsRow_kept R.out.own (fun g _ hg => HM.out.bel.block g hg)
        have HOwn := Lib.hid hown
        have HLt := Lib.hid hlt17
        have HN := Lib.hid (And.intro hwC (And.intro hszM (And.intro hszR (And.intro hgB hgC))))
        obtain ⟨i0, hi, hz0, hz1, hz2⟩ := info_partsV
        clear hown hsbc hbx hlt17 HI2 t0 t1 f0 f1 s0 s1 g1 g2 g3 g4 g5 g6 g1' g2' g3' g4' g5' g6'
        go_upto_region 17 with (fail)
        go_region_law (refine step_append_lies _ (by rfl) (.tmp 84) (.tmp 86) 24 (by rfl) (w.heap.size + 4) 44 i0 (.agg #[.int .i64 0, .int .i64 0, .string ByteArray.empty, .slice none 0 0]) 4 56 undV hi hz0 hz1 hz2 rfl (by decide) (.slice sva k svc) k _ (by simp [Act.eval, Act.put]) (by first | exact (HOwn.out.alloc _).drew | exact HOwn.out.alloc _ | exact (HOwn.out.drew.alloc _).drew | exact HOwn.out.drew.alloc _) ⟨wc.heap.size, 0, none⟩ 1 1 [.int .i64 vk, .int .i64 vn, .string vs', .slice va vl vc] (by simp [Act.eval, Act.put]) rfl (World.news_of_block (cs := #[.int .i64 vk, .int .i64 vn, .string vs', .slice va vl vc]) (t := 44) (fr := (0, 0)) (World.alloc_heap_new wc _)) (by simp [Value.oneCell']) (by omega) (by unfold maxLen; omega) (by omega) (by have := HN.out.2.1; have := HN.out.2.2.1; simp; omega) (wc.heap.size + 1) (by simp) ?_; intro gg cap' w1 hown1 hgrow hat hlt1; have hfar := (fun (x : Nat) (hx : x < wc.heap.size) (hne : some x ≠ (Value.slice sva k svc).ownBlock) => (hgrow.block x (by simp; omega) hne).trans (Below.heap_alloc wc _ x hx)); obtain ⟨⟨e0, e1⟩, _⟩ := cells2 ((hfar C HN.out.1 (fun e => by have := HLt.out C e.symm; have := HN.out.2.2.2.2; omega)).trans HM.out.nx); obtain ⟨⟨e2, e3⟩, e4, e5⟩ := cells2 ((hfar (w.heap.size + 1) (by have := HN.out.2.1; have := HN.out.2.2.1; omega) (fun e => by have := HLt.out _ e.symm; omega)).trans (blk HM.out.bel R.out.sb)); clear hfar)
        all_goals go_wp2
        all_goals exact ⟨⟨k + 1, q', vs ++ [.mk ⟨vk, vn, vs', va, vl, vc⟩ vkids], by omega, by go_num, Lib.hid (R.out.step (V := .mk ⟨vk, vn, vs', va, vl, vc⟩ vkids) HM.out (by first | exact ((Below.refl _ _).alloc (Nat.le_refl _) _).drew | exact (Below.refl _ _).alloc (Nat.le_refl _) _ | exact (Below.refl _ _).drew.alloc (Nat.le_refl _) _ | exact ((Below.refl _ _).drew.alloc (Nat.le_refl _) _).drew) hgrow hown1 (hat.imp id (fun e => by omega)))⟩, by simp [intOf]; omega⟩
    · have hkn : k = tn := by omega
      subst hkn
      obtain ⟨⟨s0, s1⟩, s2, s3⟩ := cells2 R.out.sb
      have hcn := R.out.cnt
      have hk1 := HLen.out.2.1
      have hkk := HLen.out.1
      obtain ⟨sva, cp, rfl⟩ := isSlice R.out.own
      obtain ⟨g, rfl, hg4, hcell⟩ : ∃ g, sva = some ⟨g, 0, none⟩ ∧ w.heap.size + 4 ≤ g ∧ ∀ (i : Nat) (c : LT), vs[i]? = some c → wr.cell? ⟨g, 0 + i * 4, none⟩ = some (.int .i64 c.node.k) ∧ wr.cell? ⟨g, 0 + i * 4 + 1, none⟩ = some (.int .i64 c.node.n) ∧ wr.cell? ⟨g, 0 + i * 4 + 2, none⟩ = some (.string c.node.s) ∧ wr.cell? ⟨g, 0 + i * 4 + 3, none⟩ = some (.slice c.node.a c.node.len c.node.cap) := by
        rcases R.out.own.2 with ⟨_, hno⟩ | ⟨g, cp', cur, hv, hg, hh, _, _, _, htk⟩
        · omega
        · cases hv
          refine ⟨g, rfl, hg, fun i c hi => ?_⟩
          have hil : i < vs.length := (List.getElem?_eq_some_iff.1 hi).1
          obtain ⟨h0, h1, h2, h3⟩ := cellsV_at hi
          rw [← htk, List.getElem?_take] at h0 h1 h2 h3
          rw [if_pos (by omega)] at h0 h1 h2 h3
          rw [Nat.zero_add]
          exact ⟨by simpa [World.cell?, hh] using h0, by simpa [World.cell?, hh] using h1, by simpa [World.cell?, hh] using h2, by simpa [World.cell?, hh] using h3⟩
      have HTp : Hid (∀ W, Below wr.heap.size wr W → Calls Tryz.prog 111 #[.slice (some ⟨g, 0, none⟩) k cp] W fun e w' => ∃ (g' cp' : Nat), e = .returned (.agg #[.int .i64 2, .int .i64 0, .string ByteArray.empty, .slice (some ⟨g', 0, none⟩) k cp']) ∧
          Hid (W.heap.size ≤ g' ∧ g' < w'.heap.size ∧ Below W.heap.size W w' ∧ ∀ (i : Nat) (c : LT), vs[i]? = some c → w'.cell? ⟨g', i * 4, none⟩ = some (.int .i64 c.node.k) ∧ w'.cell? ⟨g', i * 4 + 1, none⟩ = some (.int .i64 c.node.n) ∧ w'.cell? ⟨g', i * 4 + 2, none⟩ = some (.string c.node.s) ∧ w'.cell? ⟨g', i * 4 + 3, none⟩ = some (.slice c.node.a c.node.len c.node.cap)) ∧
          (w'.cell? ⟨w.heap.size + 1, 0, none⟩ = some (.slice a len cap) ∧ w'.cell? ⟨w.heap.size + 1, 1, none⟩ = some (.int .i64 q)) ∧
          ((w'.cell? ⟨w.heap.size + 1 + 1, 0, none⟩ = some (.int .i64 0) ∧ w'.cell? ⟨w.heap.size + 1 + 1, 1, none⟩ = some (.int .i64 0) ∧ w'.cell? ⟨w.heap.size + 1 + 1, 2, none⟩ = some (.string ⟨#[]⟩) ∧ w'.cell? ⟨w.heap.size + 1 + 1, 3, none⟩ = some (.slice none 0 0)) ∧
            (w'.frozen? ⟨w.heap.size + 1 + 1, 0, none⟩ = false ∧ w'.frozen? ⟨w.heap.size + 1 + 1, 1, none⟩ = false ∧ w'.frozen? ⟨w.heap.size + 1 + 1, 2, none⟩ = false ∧ w'.frozen? ⟨w.heap.size + 1 + 1, 3, none⟩ = false)) ∧
          ((w'.cell? ⟨w.heap.size + 1 + 1 + 1, 0, none⟩ = some (.slice none 0 0) ∧ w'.cell? ⟨w.heap.size + 1 + 1 + 1, 1, none⟩ = some (.int .i64 0)) ∧ (w'.frozen? ⟨w.heap.size + 1 + 1 + 1, 0, none⟩ = false ∧ w'.frozen? ⟨w.heap.size + 1 + 1 + 1, 1, none⟩ = false))) := Lib.hid fun W hW => by
        have hT := RTuple_raw g 0 cp vs (by omega) W (fun i c hi => by
          obtain ⟨h0, h1, h2, h3⟩ := hcell i c hi
          exact ⟨(hW.cell (p := ⟨g, _, none⟩) (cell_lt h0)).trans h0, (hW.cell (p := ⟨g, _, none⟩) (cell_lt h1)).trans h1, (hW.cell (p := ⟨g, _, none⟩) (cell_lt h2)).trans h2, (hW.cell (p := ⟨g, _, none⟩) (cell_lt h3)).trans h3⟩)
        rw [hcn] at hT
        refine hT.mono fun e w' h => ?_
        obtain ⟨g', cp', he, h1, h2, hb, h3⟩ := h
        have hB := hW.trans (hb.mono hW.size)
        exact ⟨g', cp', he, Lib.hid ⟨h1, h2, hb, h3⟩, (cells2 (blk hB R.out.sb)).1, cells4 (blk hB R.out.r4), cells2 (blk hB R.out.r5)⟩
      clear hcn hk1 hkk hcell hg4
      have m1 : w.heap.size + 1 ≠ w.heap.size + 1 + 1 := by omega
      have m2 : w.heap.size + 1 ≠ w.heap.size + 1 + 1 + 1 := by omega
      have far4 : ∀ (W : World) (i j : Nat) (x : Value), (W.setCell ⟨w.heap.size + 1 + 1, i, none⟩ x).cell? ⟨w.heap.size + 1, j, none⟩ = W.cell? ⟨w.heap.size + 1, j, none⟩ := fun W i j x => World.cell?_setCell_far W ⟨w.heap.size + 1 + 1, i, none⟩ ⟨w.heap.size + 1, j, none⟩ x m1.symm
      have far5 : ∀ (W : World) (i j : Nat) (x : Value), (W.setCell ⟨w.heap.size + 1 + 1 + 1, i, none⟩ x).cell? ⟨w.heap.size + 1, j, none⟩ = W.cell? ⟨w.heap.size + 1, j, none⟩ := fun W i j x => World.cell?_setCell_far W ⟨w.heap.size + 1 + 1 + 1, i, none⟩ ⟨w.heap.size + 1, j, none⟩ x m2.symm
      clear m1 m2
      go_upto_region 18 with (fail)
      go_region_held3 (fun w' => w'.cell? ⟨w.heap.size + 1, 0, none⟩ = some (.slice a len cap) ∧ w'.cell? ⟨w.heap.size + 1, 1, none⟩ = some (.int .i64 q))
        (first | go_keep | (simp only [far4, far5, u4, u5, and_self]))
        (first
          | (go_at_call 111; refine (HTp.out _ ?_).mono ?_; (first | exact Below.refl _ _ | exact (Below.refl _ _).drew); rintro e W5 ⟨g', cp', rfl, H5, ⟨u4, u5⟩, ⟨⟨a0, a1, a2, a3⟩, b0, b1, b2, b3⟩, ⟨c0, c1⟩, c2, c3⟩))
      go_wp2
      refine ⟨rfl, .tuple #[Node.val ⟨2, 0, ByteArray.empty, some ⟨g', 0, none⟩, k, cp'⟩, .agg #[.slice a len cap, .int .i64 q]], ?_, ⟨.mk ⟨2, 0, ByteArray.empty, some ⟨g', 0, none⟩, k, cp'⟩ vs, q, rfl, ?_⟩⟩
      · simp [results, Tryz.f50, go_sem, Node.val, a0, a1, a2, a3, c0, c1]
      · exact tupEnd R.out (by have := HLen.out; omega) ((Below.refl _ _).drew) H5.out
end Go.Proofs.YtlbnfokedkpccaaGreat
