/- Values made of numbers: ValueOf at sums, its parts. -/
import Derived.Test.YtlbnfokedkpccaaGreatOrdf
import Derived.Deep.RegionHeld3
import Derived.Deep.Cut
import Derived.Deep.CutRange
import Derived.Deep.DeepCutAuto
import Derived.Deep.AppendLies
import Derived.Deep.RegionLaw
import Derived.Deep.LoopGhost
set_option linter.all false
namespace Go.Proofs.YtlbnfokedkpccaaGreat
open Go.RowKit Go.Shelf
attribute [local go_sem] Oper.semAt_some

theorem frozen_al {W : World} {b j : Nat} {v : Value} (o : Obj) (h : W.cell? ⟨b, j, none⟩ = some v) (hf : W.frozen? ⟨b, j, none⟩ = false) : (W.alloc o).frozen? ⟨b, j, none⟩ = false :=
  (((Below.refl W.heap.size W).alloc (Nat.le_refl _) o).frozen (p := ⟨b, j, none⟩) (cell_lt h)).trans hf
/-- What stands where ValueOf goes on at a sum, behind its part: the part's box is block B. -/
structure SumR (d : Nat) (w : World) (b7 : Nat) (a : Option Addr) (len cap : Nat) (V : LT) (q : Nat) (W : World) (B : Nat) : Prop where
  bel : Below w.heap.size w W
  val : IsV (fun b => w.heap.size + 4 ≤ b ∧ b < W.heap.size) W V
  fine : Fine d V
  box : W.heap[B]? = some (.cells #[.int .i64 V.node.k, .int .i64 V.node.n, .string V.node.s, .slice V.node.a V.node.len V.node.cap] 44 (0, 0))
  r4 : W.heap[w.heap.size + 1 + 1]? = some (.cells #[.int .i64 0, .int .i64 0, .string ⟨#[]⟩, .slice none 0 0] 44 (0, 0))
  r5 : W.heap[w.heap.size + 1 + 1 + 1]? = some (.cells #[.slice none 0 0, .int .i64 0] 59 (0, 0))
  r7 : W.heap[b7]? = some (.cells #[.slice a len cap, .int .i64 q] 59 (0, 0))
  ge : w.heap.size + 4 ≤ b7
  gB : w.heap.size + 4 ≤ B
  ne : B ≠ b7

theorem SumR.drew {d : Nat} {w : World} {b7 : Nat} {a : Option Addr} {len cap : Nat} {V : LT} {q : Nat} {W : World} {B : Nat} (h : SumR d w b7 a len cap V q W B) : SumR d w b7 a len cap V q W.drew B :=
  ⟨h.bel.drew, IsV.kept (S := fun b => w.heap.size + 4 ≤ b ∧ b < W.heap.size) (S' := fun b => w.heap.size + 4 ≤ b ∧ b < W.drew.heap.size) (A := W) (B := W.drew) (fun b hb => hb) (fun b hb _ => rfl) h.val, h.fine, h.box, h.r4, h.r5, h.r7, h.ge, h.gB, h.ne⟩
theorem sumA {w W2 W W3 : World} {b7 d len cap q at' : Nat} {a : Option Addr} {vk vn : Int} {vs : ByteArray} {va : Option Addr} {vl vc : Nat} {vkids : List LT} (X : Below w.heap.size w W2 ∧ W2.heap[w.heap.size + 1 + 1]? = some (.cells #[.int .i64 0, .int .i64 0, .string ⟨#[]⟩, .slice none 0 0] 44 (0, 0)) ∧ W2.heap[w.heap.size + 1 + 1 + 1]? = some (.cells #[.slice none 0 0, .int .i64 0] 59 (0, 0)) ∧
      W2.heap[b7]? = some (.cells #[.slice a len cap, .int .i64 at'] 59 (0, 0)) ∧ w.heap.size + 4 ≤ b7 ∧ W2.heap.size = b7 + 1)
    (hW : Below W2.heap.size W2 W) (H3 : IsV (fun b => W.heap.size ≤ b ∧ b < W3.heap.size) W3 (.mk ⟨vk, vn, vs, va, vl, vc⟩ vkids) ∧ Fine d (.mk ⟨vk, vn, vs, va, vl, vc⟩ vkids) ∧ Below W.heap.size W W3) :
    SumR d w b7 a len cap (.mk ⟨vk, vn, vs, va, vl, vc⟩ vkids) q (((W3.alloc (.cells #[.int .i64 vk, .int .i64 vn, .string vs, .slice va vl vc] 44)).setCell ⟨b7, 0, none⟩ (.slice a len cap)).setCell ⟨b7, 1, none⟩ (.int .i64 q)) W3.heap.size := by
  obtain ⟨x0, x4, x5, x7, hge, hs2⟩ := X
  obtain ⟨h1, h2, h3⟩ := H3
  have hb := hW.trans (h3.mono hW.size)
  have hs3 := hb.size
  have hsW := hW.size
  have hb4 : Below W2.heap.size W2 (W3.alloc (.cells #[.int .i64 vk, .int .i64 vn, .string vs, .slice va vl vc] 44)) := hb.alloc hb.size _
  have hs4 : (W3.alloc (.cells #[.int .i64 vk, .int .i64 vn, .string vs, .slice va vl vc] 44)).heap.size = W3.heap.size + 1 := by simp
  refine ⟨below2 (x0.trans (hb4.mono x0.size)) (by omega), h1.kept (fun b hb' => ⟨by omega, by rw [size2]; omega⟩) (fun b hb' hl => (heap2 (by omega)).trans (Below.heap_alloc W3 _ b hl)), h2, (heap2 (by omega)).trans (World.alloc_heap_new W3 _), (heap2 (by omega)).trans (blk hb4 x4), (heap2 (by omega)).trans (blk hb4 x5), setAll2 (blk hb4 x7), hge, by omega, by omega⟩
theorem sumB {w W2 W W3 : World} {b7 d len cap q at' : Nat} {a : Option Addr} {vk vn : Int} {vs : ByteArray} {va : Option Addr} {vl vc : Nat} {vkids : List LT} {c0 c1 c2 c3 : Value} (X : Below w.heap.size w W2 ∧ W2.heap[w.heap.size + 1 + 1]? = some (.cells #[.int .i64 0, .int .i64 0, .string ⟨#[]⟩, .slice none 0 0] 44 (0, 0)) ∧ W2.heap[w.heap.size + 1 + 1 + 1]? = some (.cells #[.slice none 0 0, .int .i64 0] 59 (0, 0)) ∧
      W2.heap[b7]? = some (.cells #[.slice a len cap, .int .i64 at'] 59 (0, 0)) ∧ w.heap.size + 4 ≤ b7 ∧ W2.heap.size = b7 + 1)
    (hW : Below W2.heap.size W2 W) (hz : W.heap[W2.heap.size]? = some (.cells #[c0, c1, c2, c3] 44 (0, 0))) (H3 : IsV (fun b => W.heap.size ≤ b ∧ b < W3.heap.size) W3 (.mk ⟨vk, vn, vs, va, vl, vc⟩ vkids) ∧ Fine d (.mk ⟨vk, vn, vs, va, vl, vc⟩ vkids) ∧ Below W.heap.size W W3) :
    SumR d w b7 a len cap (.mk ⟨vk, vn, vs, va, vl, vc⟩ vkids) q ((((((W3.setCell ⟨W2.heap.size, 0, none⟩ (.int .i64 vk)).setCell ⟨W2.heap.size, 1, none⟩ (.int .i64 vn)).setCell ⟨W2.heap.size, 2, none⟩ (.string vs)).setCell ⟨W2.heap.size, 3, none⟩ (.slice va vl vc)).setCell ⟨b7, 0, none⟩ (.slice a len cap)).setCell ⟨b7, 1, none⟩ (.int .i64 q)) W2.heap.size := by
  obtain ⟨x0, x4, x5, x7, hge, hs2⟩ := X
  obtain ⟨h1, h2, h3⟩ := H3
  have hb := hW.trans (h3.mono hW.size)
  have hs3 := hb.size
  have hzs := (Array.getElem?_eq_some_iff.1 hz).1
  have hsW := hW.size
  refine ⟨below2 (below4 (x0.trans (hb.mono x0.size)) x0.size) (by omega), h1.kept (fun b hb' => ⟨by omega, by rw [size2, size4]; omega⟩) (fun b hb' hl => (heap2 (by omega)).trans (heap4 (by omega))), h2, (heap2 (by omega)).trans (setAll4 (blk h3 hz)), (heap2 (by omega)).trans ((heap4 (by omega)).trans (blk hb x4)), (heap2 (by omega)).trans ((heap4 (by omega)).trans (blk hb x5)), setAll2 ((heap4 (by omega)).trans (blk hb x7)), hge, by omega, by omega⟩

/-- The value that is handed on: a value behind a number. -/
theorem tagEnd {d : Nat} {w : World} {b7 : Nat} {a : Option Addr} {len cap : Nat} {V : LT} {q : Nat} {wc W W5 : World} {B t : Nat} {a' b' c' d' e' f' : Value} (HS : SumR d w b7 a len cap V q wc B) (hW : Below wc.heap.size wc W) (ht : t < 8)
    (H5 : W5.heap.size = W.heap.size + 3 ∧ Below W.heap.size W W5 ∧ W5.cell? ⟨W.heap.size + 2, 0, none⟩ = some (.int .i64 V.node.k) ∧ W5.cell? ⟨W.heap.size + 2, 1, none⟩ = some (.int .i64 V.node.n) ∧ W5.cell? ⟨W.heap.size + 2, 2, none⟩ = some (.string V.node.s) ∧ W5.cell? ⟨W.heap.size + 2, 3, none⟩ = some (.slice V.node.a V.node.len V.node.cap)) :
    IsV (fun b => w.heap.size ≤ b ∧ b < ((((((W5.setCell ⟨w.heap.size + 1 + 1, 0, none⟩ a').setCell ⟨w.heap.size + 1 + 1, 1, none⟩ b').setCell ⟨w.heap.size + 1 + 1, 2, none⟩ c').setCell ⟨w.heap.size + 1 + 1, 3, none⟩ d').setCell ⟨w.heap.size + 1 + 1 + 1, 0, none⟩ e').setCell ⟨w.heap.size + 1 + 1 + 1, 1, none⟩ f').heap.size) ((((((W5.setCell ⟨w.heap.size + 1 + 1, 0, none⟩ a').setCell ⟨w.heap.size + 1 + 1, 1, none⟩ b').setCell ⟨w.heap.size + 1 + 1, 2, none⟩ c').setCell ⟨w.heap.size + 1 + 1, 3, none⟩ d').setCell ⟨w.heap.size + 1 + 1 + 1, 0, none⟩ e').setCell ⟨w.heap.size + 1 + 1 + 1, 1, none⟩ f') (.mk ⟨3, t, ByteArray.empty, some ⟨W.heap.size + 2, 0, none⟩, 1, 1⟩ [V]) ∧
    Fine (d + 1) (.mk ⟨3, t, ByteArray.empty, some ⟨W.heap.size + 2, 0, none⟩, 1, 1⟩ [V]) ∧ Below w.heap.size w ((((((W5.setCell ⟨w.heap.size + 1 + 1, 0, none⟩ a').setCell ⟨w.heap.size + 1 + 1, 1, none⟩ b').setCell ⟨w.heap.size + 1 + 1, 2, none⟩ c').setCell ⟨w.heap.size + 1 + 1, 3, none⟩ d').setCell ⟨w.heap.size + 1 + 1 + 1, 0, none⟩ e').setCell ⟨w.heap.size + 1 + 1 + 1, 1, none⟩ f') := by
  obtain ⟨h5, hb, hc⟩ := H5
  have h1 := HS.bel.size
  have h2 := hW.size
  have h3 := hb.size
  have hB : Below wc.heap.size wc W5 := hW.trans (hb.mono h2)
  have hg : w.heap.size + 4 ≤ wc.heap.size := by have := HS.ge; have := (Array.getElem?_eq_some_iff.1 HS.r7).1; omega
  have hk : ∀ b, b ≠ w.heap.size + 1 + 1 → b ≠ w.heap.size + 1 + 1 + 1 → ((((((W5.setCell ⟨w.heap.size + 1 + 1, 0, none⟩ a').setCell ⟨w.heap.size + 1 + 1, 1, none⟩ b').setCell ⟨w.heap.size + 1 + 1, 2, none⟩ c').setCell ⟨w.heap.size + 1 + 1, 3, none⟩ d').setCell ⟨w.heap.size + 1 + 1 + 1, 0, none⟩ e').setCell ⟨w.heap.size + 1 + 1 + 1, 1, none⟩ f').heap[b]? = W5.heap[b]? := fun b n1 n2 => (heap2 n2).trans (heap4 n1)
  refine ⟨.mk _ _ rfl (by simp [maxLen]) (by simp) (fun i c hi => ?_) (fun c hm => ?_), Fine.node d _ _ (by simp) (by simp [okNode]; omega) (by simp) (by simp) (fun c hm => by rw [List.mem_singleton.1 hm]; exact HS.fine), below2 (below4 (HS.bel.trans (hB.mono h1)) (by omega)) (by omega)⟩
  · rcases i with _ | i
    · simp at hi
      subst hi
      have hh := hk (W.heap.size + 2) (by omega) (by omega)
      exact ⟨_, rfl, ⟨by omega, by rw [size2, size4]; omega⟩, (World.cell?_of_block (a := ⟨_, _, none⟩) hh).trans (by simpa using hc.1), (World.cell?_of_block (a := ⟨_, _, none⟩) hh).trans (by simpa using hc.2.1),
        (World.cell?_of_block (a := ⟨_, _, none⟩) hh).trans (by simpa using hc.2.2.1), (World.cell?_of_block (a := ⟨_, _, none⟩) hh).trans (by simpa using hc.2.2.2)⟩
    · simp at hi
  · rw [List.mem_singleton.1 hm]
    exact HS.val.kept (fun b hb' => ⟨by omega, by rw [size2, size4]; omega⟩) (fun b hb' hl => (hk b (by omega) (by omega)).trans (hB.block b hl))

set_option maxRecDepth 100000 in
set_option maxHeartbeats 10000000 in
theorem ValueOf_sum (n₀ : Nat) (a : Option Addr) (len cap : Nat) (l : List Int) (d : Nat) (S : Nat → Prop) (ta : Option Addr) (tn tc : Nat) (kids : List TT) (at_ : Nat) (w : World) (hl : IsInts n₀ w a len l) (hn : n₀ ≤ w.heap.size)
    (hk1 : 1 ≤ kids.length) (hk3 : kids.length ≤ 3) (hS : ∀ b, S b → b < w.heap.size) (hTT : IsTT S w (.mk 3 ta tn tc kids))
    (ih : ∀ c ∈ kids, ∀ (q : Nat) (W : World), Below w.heap.size w W → Calls Tryz.prog 50 #[.agg #[.int .i64 c.k, c.row], streamV a len cap q] W (VofR d a len cap W)) :
    Calls Tryz.prog 50 #[.agg #[.int .i64 3, .slice ta tn tc], streamV a len cap at_] w (VofR (d + 1) a len cap w) := by
  cases hTT with
  | mk _ _ _ _ _ hlen hm hc hk =>
  have HT : Hid (∀ W, Below w.heap.size w W → Calls Tryz.prog 49 #[.agg #[.slice a len cap, .int .i64 at_], .int .i64 tn] W fun e w' => ∃ (n : Int) (at' : Nat), e = .returned (.tuple #[.int .i64 n, .agg #[.slice a len cap, .int .i64 at']]) ∧ Hid ((0 ≤ n ∧ n < tn) ∧ Below W.heap.size W w')) := Lib.hid fun W hW =>
    (Take_any n₀ a len cap l at_ tn (by omega) (by omega) W (hl.bel (hW.mono hn)) (by have := hW.size; omega)).mono fun e w' h => by
      obtain ⟨⟨n, at', h0, h1, he⟩, hb⟩ := h
      exact ⟨n, at', he, Lib.hid ⟨⟨h0, h1⟩, hb⟩⟩
  have HI := Lib.hid ih
  have HC := Lib.hid hc
  have HS := Lib.hid hS
  have HLen := Lib.hid (And.intro hlen (And.intro hk1 hk3))
  unfold streamV
  clear hl hn ih hc hk hS hlen hk1 hk3
  have HB := Lib.hid (boxes w #[.int .i64 3, .slice ta tn tc] #[.slice a len cap, .int .i64 at_] #[.int .i64 0, .int .i64 0, .string ⟨#[]⟩, .slice none 0 0] #[.slice none 0 0, .int .i64 0] 36 59 44 59)
  go_enter Tryz.func50, Tryz.ntmps50
  go_wp2_with (go_at_call 49; refine (HT.out _ HB.out.1).mono ?_; rintro e W1 ⟨n, at', rfl, H1⟩; have K1 := Lib.hid (HB.out.1.trans (H1.out.2.mono HB.out.1.size)); have L1 := Lib.hid (And.intro (blk H1.out.2 HB.out.2.1) (And.intro (blk H1.out.2 HB.out.2.2.2.1) (blk H1.out.2 HB.out.2.2.2.2))))
  have x2 := blk (Lib.hid ((Below.refl W1.heap.size W1).alloc (Nat.le_refl _) (.cells #[.slice a len cap, .int .i64 at'] 59))).out L1.out.1
  have x4 := blk (Lib.hid ((Below.refl W1.heap.size W1).alloc (Nat.le_refl _) (.cells #[.slice a len cap, .int .i64 at'] 59))).out L1.out.2.1
  have x5 := blk (Lib.hid ((Below.refl W1.heap.size W1).alloc (Nat.le_refl _) (.cells #[.slice a len cap, .int .i64 at'] 59))).out L1.out.2.2
  have x7 := World.alloc_heap_new W1 (.cells #[.slice a len cap, .int .i64 at'] 59)
  have x0 : Below w.heap.size w (W1.alloc (.cells #[.slice a len cap, .int .i64 at'] 59)) := K1.out.alloc K1.out.size _
  obtain ⟨W2, hW2⟩ : ∃ W2, W1.alloc (.cells #[.slice a len cap, .int .i64 at'] 59) = W2 := ⟨_, rfl⟩
  have hge : w.heap.size + 4 ≤ W1.heap.size := by
    have h1 := H1.out.2.size
    simp only [World.size_alloc] at h1
    omega
  have hs2 : W2.heap.size = W1.heap.size + 1 := by rw [← hW2]; simp
  rw [hW2] at x2 x4 x5 x7 x0 ⊢
  have N1 := H1.out.1
  obtain ⟨b7, hb7⟩ : ∃ b7, W1.heap.size = b7 := ⟨_, rfl⟩
  rw [hb7] at x7 hge hs2 ⊢
  obtain ⟨t, rfl⟩ : ∃ t : Nat, n = t := ⟨n.toNat, by omega⟩
  have htk : t < kids.length := by have := HLen.out.1; omega
  obtain ⟨c, hcc⟩ : ∃ c, kids[t]? = some c := ⟨kids[t], by simp [htk]⟩
  obtain ⟨b, rfl, hSb, e0, e1⟩ := HC.out t c hcc
  have hbw := HS.out b hSb
  have f0 := (x0.cell (p := ⟨b, t * 2, none⟩) hbw).trans e0
  have f1 := (x0.cell (p := ⟨b, t * 2 + 1, none⟩) hbw).trans e1
  have hI := HI.out c (List.mem_of_getElem? hcc) at'
  obtain ⟨ck, ca, cl, cc, ckids⟩ := c
  simp only [TT.k, TT.row, TT.a, TT.len, TT.cap] at f0 f1 hI
  obtain ⟨⟨t0, t1⟩, _⟩ := cells2 x2
  obtain ⟨⟨d0, d1⟩, d2, d3⟩ := cells2 x7
  have X := Lib.hid (And.intro x0 (And.intro x4 (And.intro x5 (And.intro x7 (And.intro hge hs2)))))
  have HI2 : Hid (∀ W, Below W2.heap.size W2 W → Calls Tryz.prog 50 #[.agg #[.int .i64 ck, .slice ca cl cc], .agg #[.slice a len cap, .int .i64 at']] W fun e W3 => ∃ (V : LT) (q : Nat), e = .returned (.tuple #[.agg #[.int .i64 V.node.k, .int .i64 V.node.n, .string V.node.s, .slice V.node.a V.node.len V.node.cap], .agg #[.slice a len cap, .int .i64 q]]) ∧
      Hid (IsV (fun b => W.heap.size ≤ b ∧ b < W3.heap.size) W3 V ∧ Fine d V ∧ Below W.heap.size W W3) ∧ (W3.cell? ⟨w.heap.size, 1, none⟩ = some (.slice (some ⟨b, 0, none⟩) tn tc) ∧ W3.cell? ⟨b, t * 2, none⟩ = some (.int .i64 ck) ∧ W3.cell? ⟨b, t * 2 + 1, none⟩ = some (.slice ca cl cc) ∧ W3.cell? ⟨b7, 0, none⟩ = some (.slice a len cap) ∧ W3.cell? ⟨b7, 1, none⟩ = some (.int .i64 at')) ∧
      (W3.frozen? ⟨b7, 0, none⟩ = false ∧ W3.frozen? ⟨b7, 1, none⟩ = false) ∧
      Hid (∀ B0 c0 c1 c2 c3, W.heap[B0]? = some (.cells #[c0, c1, c2, c3] 44 (0, 0)) → (W3.cell? ⟨B0, 0, none⟩ = some c0 ∧ W3.cell? ⟨B0, 1, none⟩ = some c1 ∧ W3.cell? ⟨B0, 2, none⟩ = some c2 ∧ W3.cell? ⟨B0, 3, none⟩ = some c3) ∧ (W3.frozen? ⟨B0, 0, none⟩ = false ∧ W3.frozen? ⟨B0, 1, none⟩ = false ∧ W3.frozen? ⟨B0, 2, none⟩ = false ∧ W3.frozen? ⟨B0, 3, none⟩ = false))) := Lib.hid fun W hW => (hI W (x0.trans (hW.mono x0.size))).mono fun e W3 h => by
    obtain ⟨V, q, he, h1, h2, h3⟩ := h
    have hB := hW.trans (h3.mono hW.size)
    have k : ∀ {b o : Nat} {v : Value}, W2.cell? ⟨b, o, none⟩ = some v → W3.cell? ⟨b, o, none⟩ = some v := fun {b o v} hc => (hB.cell (p := ⟨b, o, none⟩) (cell_lt hc)).trans hc
    obtain ⟨_, g0, g1⟩ := cells2 (blk hB x7)
    exact ⟨V, q, he, Lib.hid ⟨h1, h2, h3⟩, ⟨k t1, k f0, k f1, k d0, k d1⟩, ⟨g0, g1⟩, Lib.hid fun B0 c0 c1 c2 c3 hB0 => cells4 (blk h3 hB0)⟩
  have HI3 : Hid (∀ W, Below W2.heap.size W2 W → W.heap[W2.heap.size]? = some (.cells #[.int .i64 0, .int .i64 0, .string ByteArray.empty, .slice none 0 0] 44 (0, 0)) → Calls Tryz.prog 50 #[.agg #[.int .i64 ck, .slice ca cl cc], .agg #[.slice a len cap, .int .i64 at']] W fun e W3 => ∃ (V : LT) (q : Nat), e = .returned (.tuple #[.agg #[.int .i64 V.node.k, .int .i64 V.node.n, .string V.node.s, .slice V.node.a V.node.len V.node.cap], .agg #[.slice a len cap, .int .i64 q]]) ∧
      Hid (IsV (fun b => W.heap.size ≤ b ∧ b < W3.heap.size) W3 V ∧ Fine d V ∧ Below W.heap.size W W3) ∧ (W3.cell? ⟨w.heap.size, 1, none⟩ = some (.slice (some ⟨b, 0, none⟩) tn tc) ∧ W3.cell? ⟨b, t * 2, none⟩ = some (.int .i64 ck) ∧ W3.cell? ⟨b, t * 2 + 1, none⟩ = some (.slice ca cl cc) ∧ W3.cell? ⟨b7, 0, none⟩ = some (.slice a len cap) ∧ W3.cell? ⟨b7, 1, none⟩ = some (.int .i64 at')) ∧
      (W3.frozen? ⟨b7, 0, none⟩ = false ∧ W3.frozen? ⟨b7, 1, none⟩ = false) ∧
      (W3.cell? ⟨W2.heap.size, 0, none⟩ = some (.int .i64 0) ∧ W3.cell? ⟨W2.heap.size, 1, none⟩ = some (.int .i64 0) ∧ W3.cell? ⟨W2.heap.size, 2, none⟩ = some (.string ByteArray.empty) ∧ W3.cell? ⟨W2.heap.size, 3, none⟩ = some (.slice none 0 0)) ∧ (W3.frozen? ⟨W2.heap.size, 0, none⟩ = false ∧ W3.frozen? ⟨W2.heap.size, 1, none⟩ = false ∧ W3.frozen? ⟨W2.heap.size, 2, none⟩ = false ∧ W3.frozen? ⟨W2.heap.size, 3, none⟩ = false)) :=
    Lib.hid fun W hW hz => (HI2.out W hW).mono fun e W3 ⟨V, q, h0, h1, h2, h3, h4⟩ => ⟨V, q, h0, h1, h2, h3, h4.out _ _ _ _ _ hz⟩
  have htn : (t : Int) < tn := N1.2
  have p1 : W2.heap.size ≠ b7 := by omega
  have p2 : b7 ≠ W2.heap.size := by omega
  have p3 : b7 ≠ w.heap.size := by omega
  have p4 : w.heap.size ≠ b7 := by omega
  have p5 : b7 ≠ b := by omega
  have p6 : b ≠ b7 := by omega
  have p7 : W2.heap.size ≠ w.heap.size := by omega
  have p8 : w.heap.size ≠ W2.heap.size := by omega
  have p9 : W2.heap.size ≠ b := by omega
  have p10 : b ≠ W2.heap.size := by omega
  clear x0 x4 x5 x7 x2 hW2 hb7 H1 K1 L1 HT hcc e0 e1 hI hge hs2 htk HI HC HS
  have t1a : ∀ o, (W2.alloc o).cell? _ = _ := fun o => Below.cell_al o t1
  have f0a : ∀ o, (W2.alloc o).cell? _ = _ := fun o => Below.cell_al o f0
  have f1a : ∀ o, (W2.alloc o).cell? _ = _ := fun o => Below.cell_al o f1
  have d0a : ∀ o, (W2.alloc o).cell? _ = _ := fun o => Below.cell_al o d0
  have d1a : ∀ o, (W2.alloc o).cell? _ = _ := fun o => Below.cell_al o d1
  have HA : Hid (Below W2.heap.size W2 W2.drew) := Lib.hid (Below.refl _ _).drew
  have HBb : Hid (Below W2.heap.size W2 (W2.alloc (.cells #[.int .i64 0, .int .i64 0, .string ⟨#[]⟩, .slice none 0 0] 44)).drew) := Lib.hid ((Below.refl _ _).alloc (Nat.le_refl _) _).drew
  have HZ : Hid ((W2.alloc (.cells #[.int .i64 0, .int .i64 0, .string ⟨#[]⟩, .slice none 0 0] 44)).drew.heap[W2.heap.size]? = some (.cells #[.int .i64 0, .int .i64 0, .string ⟨#[]⟩, .slice none 0 0] 44 (0, 0))) := Lib.hid (World.alloc_heap_new W2 _)
  go_cut [12] (fun s12 wc => ∃ (V : LT) (q B : Nat), s12 = .pointer (some ⟨B, 0, none⟩) ∧ Hid (SumR d w b7 a len cap V q wc B))
  case first =>
    go_region_with
      (first
        | (go_at_call 50; refine (HI2.out _ ?_).mono ?_; (first | exact Below.refl _ _ | exact (Below.refl _ _).drew); rintro e W3 ⟨⟨⟨vk, vn, vs, va, vl, vc⟩, vkids⟩, q, rfl, H3, ⟨q0, q1, q2, q3, q4⟩, ⟨g0, g1⟩, _⟩; dsimp only [LT.node]; have ne1 := World.new_ne W3 _ q0; have ne2 := World.new_ne W3 _ q1; have ne3 := World.new_ne W3 _ q3; have ne3s := ne3.symm; have q3' := (fun o => Below.cell_al o q3 : ∀ o, (W3.alloc o).cell? _ = _); have q4' := (fun o => Below.cell_al o q4 : ∀ o, (W3.alloc o).cell? _ = _); have g0' := (fun o => frozen_al o q3 g0 : ∀ o, (W3.alloc o).frozen? _ = _); have g1' := (fun o => frozen_al o q4 g1 : ∀ o, (W3.alloc o).frozen? _ = _))
        | (go_at_call 50; refine (HI3.out _ ?_ ?_).mono ?_; (first | exact (Below.refl _ _).alloc (Nat.le_refl _) _ | exact ((Below.refl _ _).alloc (Nat.le_refl _) _).drew | exact ((Below.refl _ _).drew).alloc (Nat.le_refl _) _); exact World.alloc_heap_new W2 (.cells #[.int .i64 0, .int .i64 0, .string ByteArray.empty, .slice none 0 0] 44); rintro e W3 ⟨⟨⟨vk, vn, vs, va, vl, vc⟩, vkids⟩, q, rfl, H3, ⟨q0, q1, q2, q3, q4⟩, ⟨g0, g1⟩, ⟨z0, z1, z2, z3⟩, y0, y1, y2, y3⟩; dsimp only [LT.node]))
    all_goals (go_step; go_step; go_meet)
    all_goals first
      | with_reducible exact ⟨.mk ⟨vk, vn, vs, va, vl, vc⟩ vkids, q, W3.heap.size, rfl, Lib.hid (sumA (W := W2.drew) X.out HA.out H3.out)⟩
      | with_reducible exact ⟨.mk ⟨vk, vn, vs, va, vl, vc⟩ vkids, q, W2.heap.size, rfl, Lib.hid (sumB (W := (W2.alloc (.cells #[.int .i64 0, .int .i64 0, .string ⟨#[]⟩, .slice none 0 0] 44)).drew) X.out HBb.out HZ.out H3.out)⟩
  case rest =>
    obtain ⟨⟨⟨vk, vn, vs, va, vl, vc⟩, vkids⟩, q, B, rfl, HS⟩ := hcut
    clear HA HBb HZ t0 t1 t1a f0 f1 f0a f1a d0 d1 d0a d1a d2 d3 HI2 HI3 X p1 p2 p3 p4 p5 p6 p7 p8 p9 p10 N1
    have hbx := HS.out.box
    dsimp only [LT.node] at hbx
    obtain ⟨⟨v0, v1, v2, v3⟩, _⟩ := cells4 hbx
    clear hbx
    obtain ⟨⟨s0, s1⟩, _⟩ := cells2 HS.out.r7
    have HTg : Hid (∀ W, Below wc.heap.size wc W → Calls Tryz.prog 54 #[.int .i64 t, .agg #[.int .i64 vk, .int .i64 vn, .string vs, .slice va vl vc]] W fun e w' => e = .returned (.agg #[.int .i64 3, .int .i64 t, .string ByteArray.empty, .slice (some ⟨W.heap.size + 2, 0, none⟩) 1 1]) ∧
        Hid (w'.heap.size = W.heap.size + 3 ∧ Below W.heap.size W w' ∧ w'.cell? ⟨W.heap.size + 2, 0, none⟩ = some (.int .i64 vk) ∧ w'.cell? ⟨W.heap.size + 2, 1, none⟩ = some (.int .i64 vn) ∧ w'.cell? ⟨W.heap.size + 2, 2, none⟩ = some (.string vs) ∧ w'.cell? ⟨W.heap.size + 2, 3, none⟩ = some (.slice va vl vc)) ∧
        (w'.cell? ⟨B, 0, none⟩ = some (.int .i64 vk) ∧ w'.cell? ⟨B, 1, none⟩ = some (.int .i64 vn) ∧ w'.cell? ⟨B, 2, none⟩ = some (.string vs) ∧ w'.cell? ⟨B, 3, none⟩ = some (.slice va vl vc)) ∧ (w'.cell? ⟨b7, 0, none⟩ = some (.slice a len cap) ∧ w'.cell? ⟨b7, 1, none⟩ = some (.int .i64 q)) ∧
        ((w'.cell? ⟨w.heap.size + 1 + 1, 0, none⟩ = some (.int .i64 0) ∧ w'.cell? ⟨w.heap.size + 1 + 1, 1, none⟩ = some (.int .i64 0) ∧ w'.cell? ⟨w.heap.size + 1 + 1, 2, none⟩ = some (.string ⟨#[]⟩) ∧ w'.cell? ⟨w.heap.size + 1 + 1, 3, none⟩ = some (.slice none 0 0)) ∧
          (w'.frozen? ⟨w.heap.size + 1 + 1, 0, none⟩ = false ∧ w'.frozen? ⟨w.heap.size + 1 + 1, 1, none⟩ = false ∧ w'.frozen? ⟨w.heap.size + 1 + 1, 2, none⟩ = false ∧ w'.frozen? ⟨w.heap.size + 1 + 1, 3, none⟩ = false)) ∧
        ((w'.cell? ⟨w.heap.size + 1 + 1 + 1, 0, none⟩ = some (.slice none 0 0) ∧ w'.cell? ⟨w.heap.size + 1 + 1 + 1, 1, none⟩ = some (.int .i64 0)) ∧ (w'.frozen? ⟨w.heap.size + 1 + 1 + 1, 0, none⟩ = false ∧ w'.frozen? ⟨w.heap.size + 1 + 1 + 1, 1, none⟩ = false))) := Lib.hid fun W hW =>
      (RTag_raw t ⟨vk, vn, vs, va, vl, vc⟩ W).mono fun e w' ⟨he, hsz, hb, hc⟩ => by
        have hB := hW.trans (hb.mono hW.size)
        exact ⟨he, Lib.hid ⟨hsz, hb, hc⟩, (cells4 (blk hB HS.out.box)).1, (cells2 (blk hB HS.out.r7)).1, cells4 (blk hB HS.out.r4), cells2 (blk hB HS.out.r5)⟩
    have m1 : B ≠ w.heap.size + 1 + 1 := by have := HS.out.gB; omega
    have m2 : B ≠ w.heap.size + 1 + 1 + 1 := by have := HS.out.gB; omega
    have m3 : b7 ≠ w.heap.size + 1 + 1 := by have := HS.out.ge; omega
    have m4 : b7 ≠ w.heap.size + 1 + 1 + 1 := by have := HS.out.ge; omega
    have m1' := m1.symm
    have m2' := m2.symm
    have m3' := m3.symm
    have m4' := m4.symm
    go_upto_region 11 with (fail)
    go_region_held3 (fun w' => (w'.cell? ⟨B, 0, none⟩ = some (.int .i64 vk) ∧ w'.cell? ⟨B, 1, none⟩ = some (.int .i64 vn) ∧ w'.cell? ⟨B, 2, none⟩ = some (.string vs) ∧ w'.cell? ⟨B, 3, none⟩ = some (.slice va vl vc)) ∧ w'.cell? ⟨b7, 0, none⟩ = some (.slice a len cap) ∧ w'.cell? ⟨b7, 1, none⟩ = some (.int .i64 q))
      (go_keep)
      (first
        | (go_at_call 54; refine (HTg.out _ ?_).mono ?_; (first | exact Below.refl _ _ | exact (Below.refl _ _).drew); rintro e W5 ⟨rfl, H5, ⟨u0, u1, u2, u3⟩, ⟨u4, u5⟩, ⟨⟨a0, a1, a2, a3⟩, b0, b1, b2, b3⟩, ⟨c0, c1⟩, c2, c3⟩))
    go_wp2
    have ht8 : t < 8 := by have := HLen.out; omega
    refine ⟨rfl, .tuple #[Node.val ⟨3, t, ByteArray.empty, some ⟨wc.drew.heap.size + 2, 0, none⟩, 1, 1⟩, .agg #[.slice a len cap, .int .i64 q]], ?_, ⟨.mk ⟨3, t, ByteArray.empty, some ⟨wc.drew.heap.size + 2, 0, none⟩, 1, 1⟩ [.mk ⟨vk, vn, vs, va, vl, vc⟩ vkids], q, rfl, ?_⟩⟩
    · simp [results, Tryz.f50, go_sem, Node.val, a0, a1, a2, a3, c0, c1]
    · exact tagEnd HS.out ((Below.refl _ _).drew) ht8 H5.out
end Go.Proofs.YtlbnfokedkpccaaGreat
