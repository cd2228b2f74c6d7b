/- Values that numbers make: tagged ones. -/
import Derived.Test.YtofboalgbgipoaaGreatDoorValj
set_option linter.all false
namespace Go.Proofs.YtofboalgbgipoaaGreatDoor
open Go.RowKit Go.Shelf
attribute [local go_sem] Oper.semAt_some

theorem heap4 {W : World} {B b : Nat} {a' b' c' d' : Value} (h : b ≠ B) : ((((W.setCell ⟨B, 0, none⟩ a').setCell ⟨B, 1, none⟩ b').setCell ⟨B, 2, none⟩ c').setCell ⟨B, 3, none⟩ d').heap[b]? = W.heap[b]? :=
  (Below.heap_setCell _ _ _ b h).trans ((Below.heap_setCell _ _ _ b h).trans ((Below.heap_setCell _ _ _ b h).trans (Below.heap_setCell _ _ _ b h)))
theorem size4 {W : World} {B : Nat} {a' b' c' d' : Value} : ((((W.setCell ⟨B, 0, none⟩ a').setCell ⟨B, 1, none⟩ b').setCell ⟨B, 2, none⟩ c').setCell ⟨B, 3, none⟩ d').heap.size = W.heap.size := by simp [World.setCell]

theorem Tag_keep (n : Int) (x : Node) (W : World) (B : Nat) (t : TypeId) (a b c d : Value) (h : W.heap[B]? = some (.cells #[a, b, c, d] t (0, 0))) :
    Calls Tryz.prog 41 #[.int .i64 n, x.val] W fun e w' => e = .returned (.agg #[.int .i64 3, .int .i64 n, .string ByteArray.empty, .slice (some ⟨W.heap.size + 2, 0, none⟩) 1 1]) ∧
      Hid ((w'.heap.size = W.heap.size + 3 ∧ Below W.heap.size W w' ∧ w'.heap[B]? = some (.cells #[a, b, c, d] t (0, 0))) ∧ w'.cell? ⟨W.heap.size + 2, 0, none⟩ = some (.int .i64 x.k) ∧ w'.cell? ⟨W.heap.size + 2, 1, none⟩ = some (.int .i64 x.n) ∧ w'.cell? ⟨W.heap.size + 2, 2, none⟩ = some (.string x.s) ∧ w'.cell? ⟨W.heap.size + 2, 3, none⟩ = some (.slice x.a x.len x.cap)) ∧
      ((w'.cell? ⟨B, 0, none⟩ = some a ∧ w'.cell? ⟨B, 1, none⟩ = some b ∧ w'.cell? ⟨B, 2, none⟩ = some c ∧ w'.cell? ⟨B, 3, none⟩ = some d) ∧ (w'.frozen? ⟨B, 0, none⟩ = false ∧ w'.frozen? ⟨B, 1, none⟩ = false ∧ w'.frozen? ⟨B, 2, none⟩ = false ∧ w'.frozen? ⟨B, 3, none⟩ = false)) := by
  refine (Tag_raw n x W).mono ?_
  rintro e w' ⟨rfl, hs, hb, h0⟩
  have hB := (hb.block _ (Array.getElem?_eq_some_iff.1 h).1).trans h
  exact ⟨rfl, Lib.hid ⟨⟨hs, hb, hB⟩, h0⟩, cells4 hB⟩

/-- The value that is handed on: a value behind a number. -/
theorem tagFin {w W2 W3 W5 : World} {B d : Nat} {n : Int} {V : LT} {ta : Option Addr} {tn tc : Nat} {m : List TT} {t : TT} {o : Obj} {a' b' c' d' : Value} (hw2 : Below w.heap.size w W2) (hB : B < W2.heap.size) (hwB : w.heap.size ≤ B) (hV : IsV (fun b => W2.heap.size ≤ b ∧ b < W3.heap.size) W3 V) (hF : FineT d t V) (hmt : m[n.toNat]? = some t) (hb3 : Below W2.heap.size W2 W3)
    (h5 : W5.heap.size = (W3.alloc o).heap.size + 3) (hb5 : Below (W3.alloc o).heap.size (W3.alloc o) W5) (hn : 0 ≤ n) (hn8 : n < 8)
    (hc : W5.cell? ⟨(W3.alloc o).heap.size + 2, 0, none⟩ = some (.int .i64 V.node.k) ∧ W5.cell? ⟨(W3.alloc o).heap.size + 2, 1, none⟩ = some (.int .i64 V.node.n) ∧ W5.cell? ⟨(W3.alloc o).heap.size + 2, 2, none⟩ = some (.string V.node.s) ∧ W5.cell? ⟨(W3.alloc o).heap.size + 2, 3, none⟩ = some (.slice V.node.a V.node.len V.node.cap)) :
    IsV (fun b => w.heap.size ≤ b ∧ b < ((((W5.setCell ⟨B, 0, none⟩ a').setCell ⟨B, 1, none⟩ b').setCell ⟨B, 2, none⟩ c').setCell ⟨B, 3, none⟩ d').heap.size) ((((W5.setCell ⟨B, 0, none⟩ a').setCell ⟨B, 1, none⟩ b').setCell ⟨B, 2, none⟩ c').setCell ⟨B, 3, none⟩ d') (.mk ⟨3, n, ByteArray.empty, some ⟨(W3.alloc o).heap.size + 2, 0, none⟩, 1, 1⟩ [V]) ∧
    FineT (d + 1) (.mk 3 ta tn tc m) (.mk ⟨3, n, ByteArray.empty, some ⟨(W3.alloc o).heap.size + 2, 0, none⟩, 1, 1⟩ [V]) ∧ Below w.heap.size w ((((W5.setCell ⟨B, 0, none⟩ a').setCell ⟨B, 1, none⟩ b').setCell ⟨B, 2, none⟩ c').setCell ⟨B, 3, none⟩ d') := by
  have hs4 : (W3.alloc o).heap.size = W3.heap.size + 1 := by simp
  have h3 := hb3.size
  have h2 := hw2.size
  have hk : ∀ b, b ≠ B → ((((W5.setCell ⟨B, 0, none⟩ a').setCell ⟨B, 1, none⟩ b').setCell ⟨B, 2, none⟩ c').setCell ⟨B, 3, none⟩ d').heap[b]? = W5.heap[b]? := fun b hb => heap4 hb
  refine ⟨.mk _ _ rfl (by simp [maxLen]) (by simp) (fun i c hi => ?_) (fun c hm => ?_), ⟨Fine.node d _ _ (by simp) (by simp [okNode]; omega) (by simp) (by simp) (fun c hm => by rw [List.mem_singleton.1 hm]; exact hF.1), .sum _ _ _ _ _ _ t n.toNat rfl (by show n = _; omega) hmt hF.2⟩, ?_⟩
  · rcases i with _ | i
    · simp at hi
      subst hi
      have hh := hk ((W3.alloc o).heap.size + 2) (by omega)
      exact ⟨_, rfl, ⟨by omega, by rw [size4]; omega⟩, (World.cell?_of_block (a := ⟨_, _, none⟩) hh).trans (by simpa using hc.1), (World.cell?_of_block (a := ⟨_, _, none⟩) hh).trans (by simpa using hc.2.1),
        (World.cell?_of_block (a := ⟨_, _, none⟩) hh).trans (by simpa using hc.2.2.1), (World.cell?_of_block (a := ⟨_, _, none⟩) hh).trans (by simpa using hc.2.2.2)⟩
    · simp at hi
  · rw [List.mem_singleton.1 hm]
    have q1 : ∀ b, (W2.heap.size ≤ b ∧ b < W3.heap.size) → w.heap.size ≤ b ∧ b < ((((W5.setCell ⟨B, 0, none⟩ a').setCell ⟨B, 1, none⟩ b').setCell ⟨B, 2, none⟩ c').setCell ⟨B, 3, none⟩ d').heap.size := fun b hb => ⟨by omega, by rw [size4]; omega⟩
    have q2 : ∀ b, (W2.heap.size ≤ b ∧ b < W3.heap.size) → b < W3.heap.size → ((((W5.setCell ⟨B, 0, none⟩ a').setCell ⟨B, 1, none⟩ b').setCell ⟨B, 2, none⟩ c').setCell ⟨B, 3, none⟩ d').heap[b]? = W3.heap[b]? := fun b hb hl =>
      (hk b (by omega)).trans ((hb5.block b (by omega)).trans (Below.heap_alloc W3 o b hl))
    exact hV.kept q1 q2
  · exact below4 (((hw2.trans (hb3.mono h2)).alloc (by omega) o).trans (hb5.mono (by omega))) hwB

/-- What stands where `Made` begins: its type's copy, its result. -/
theorem begins (k : Int) (ta : Option Addr) (tn tc : Nat) (w W2 : World) (hW2 : (w.alloc (.cells #[.int .i64 k, .slice ta tn tc] 27)).alloc (.cells #[.int .i64 0, .int .i64 0, .string ByteArray.empty, .slice none 0 0] 24) = W2) :
    W2.heap.size = w.heap.size + 2 ∧ Below w.heap.size w W2 ∧ W2.heap[w.heap.size]? = some (.cells #[.int .i64 k, .slice ta tn tc] 27 (0, 0)) ∧ W2.heap[w.heap.size + 1]? = some (.cells #[.int .i64 0, .int .i64 0, .string ByteArray.empty, .slice none 0 0] 24 (0, 0)) := by
  subst hW2
  refine ⟨by simp, ((Below.refl _ _).alloc (Nat.le_refl _) _).alloc (by simp) _, (Below.heap_alloc _ _ _ (by simp)).trans (World.alloc_heap_new w _), ?_⟩
  have := World.alloc_heap_new (w.alloc (.cells #[.int .i64 k, .slice ta tn tc] 27)) (.cells #[.int .i64 0, .int .i64 0, .string ByteArray.empty, .slice none 0 0] 24)
  rwa [World.size_alloc] at this

theorem resKept {W2 W3 : World} {B : Nat} {o : Obj} (h : W2.heap[B]? = some o) (hb : Below W2.heap.size W2 W3) (o' : Obj) : (W3.alloc o').heap[B]? = some o := by
  have hB := (Array.getElem?_eq_some_iff.1 h).1
  exact (Below.heap_alloc W3 o' B (Nat.lt_of_lt_of_le hB hb.size)).trans ((hb.block B hB).trans h)
set_option maxRecDepth 100000 in
set_option maxHeartbeats 1000000 in
theorem Made_sum (n₀ : Nat) (a : Option Addr) (len cap : Nat) (l : List Int) (d : Nat) (S : Nat → Prop) (ta : Option Addr) (tn tc : Nat) (kids : List TT) (at_ : Int) (w : World) (h0 : 0 ≤ at_) (h1 : at_ ≤ 1000000) (hl : IsInts n₀ w a len l) (hn : n₀ ≤ w.heap.size)
    (hk1 : 1 ≤ kids.length) (hk3 : kids.length ≤ 3) (hS : ∀ b, S b → b < w.heap.size) (hTT : IsTT S w (.mk 3 ta tn tc kids))
    (ih : ∀ c ∈ kids, ∀ W, Below w.heap.size w W → Calls Tryz.prog 43 #[.agg #[.int .i64 c.k, c.row], .slice a len cap, .int .i64 (at_ + 1)] W (MadeR d c (at_ + 1) W)) :
    Calls Tryz.prog 43 #[.agg #[.int .i64 3, .slice ta tn tc], .slice a len cap, .int .i64 at_] w (MadeR (d + 1) (.mk 3 ta tn tc kids) at_ w) := by
  obtain ⟨W2, hW2⟩ : ∃ W2, (w.alloc (.cells #[.int .i64 3, .slice ta tn tc] 27)).alloc (.cells #[.int .i64 0, .int .i64 0, .string ByteArray.empty, .slice none 0 0] 24) = W2 := ⟨_, rfl⟩
  obtain ⟨hs2, hb2, typ2, res2⟩ := begins _ _ _ _ w W2 hW2
  have hN := Nth_any n₀ a len cap l at_ W2 (hl.bel (hb2.mono hn))
  cases hTT with
  | mk _ _ _ _ _ hlen hm hc hk =>
    have hT := fun W => Turn_any (nthF l at_) tn (by omega) (by omega) W
    have ht := turnF_lt (nthF l at_) (m := tn) (by omega)
    obtain ⟨t, htt⟩ : ∃ t : Nat, turnF (nthF l at_) tn = t := ⟨(turnF (nthF l at_) tn).toNat, by omega⟩
    rw [htt] at hT ht
    have htl : t < tn := by omega
    have htk : t < kids.length := by omega
    obtain ⟨c, hcc⟩ : ∃ c, kids[t]? = some c := ⟨kids[t], by simp [htk]⟩
    obtain ⟨b, rfl, hb, e0, e1⟩ := hc t c hcc
    have hbw := hS b hb
    have f0 := (hb2.cell (p := ⟨b, t * 2, none⟩) hbw).trans e0
    have f1 := (hb2.cell (p := ⟨b, t * 2 + 1, none⟩) hbw).trans e1
    have hI := ih c (List.mem_of_getElem? hcc) W2 hb2
    have HCC := Lib.hid hcc
    obtain ⟨ck, ca, cl, cc, ckids⟩ := c
    simp only [TT.k, TT.row, TT.a, TT.len, TT.cap] at f0 f1 hI
    have H1 := Lib.hid h1
    have H2 := Lib.hid hs2
    have HB := Lib.hid hb2
    have HR := Lib.hid res2
    have H8 := Lib.hid (show ((t : Int)) < 8 by omega)
    have hI' : Calls Tryz.prog 43 #[.agg #[.int .i64 ck, .slice ca cl cc], .slice a len cap, .int .i64 (at_ + 1)] W2 fun e W3 => ∃ (V : LT) (at' : Int), e = .returned (.tuple #[.agg #[.int .i64 V.node.k, .int .i64 V.node.n, .string V.node.s, .slice V.node.a V.node.len V.node.cap], .int .i64 at']) ∧
        Hid (at_ + 1 ≤ at' ∧ at' ≤ at_ + 1 + costN d ∧ IsV (fun b => W2.heap.size ≤ b ∧ b < W3.heap.size) W3 V ∧ FineT d (.mk ck ca cl cc ckids) V ∧ Below W2.heap.size W2 W3) := hI.mono fun e W3 h => by
      obtain ⟨V, at', he, h⟩ := h
      exact ⟨V, at', he, Lib.hid h⟩
    rw [← hW2] at hN hI' f0 f1
    have HW := Lib.hid hW2
    clear hW2 htt hcc hl hb2 res2 typ2 e0 e1 hI ih hc hk hs2 hk1 hk3 hm htk hb hS ht hlen
    go_enter Tryz.func43, Tryz.ntmps43
    go_wp2_with (first | (go_at_call 60; refine hN.mono ?_; clear hN; rintro e w' ⟨rfl, rfl⟩) | (go_at_call 59; refine (hT _).mono ?_; clear hT; rintro e w' ⟨rfl, rfl⟩) | (go_at_call 43; refine hI'.mono ?_; clear hI'; rintro e W3 ⟨⟨⟨vk, vn, vs, va, vl, vc⟩, vkids⟩, q, rfl, HV⟩; rw [HW.out] at HV; have hTg := Tag_keep t ⟨vk, vn, vs, va, vl, vc⟩ (W3.alloc (.cells #[.int .i64 vk, .int .i64 vn, .string vs, .slice va vl vc] 24)) (w.heap.size + 1) _ _ _ _ _ (resKept HR.out HV.out.2.2.2.2 _); dsimp only [LT.node, Node.val] at hTg ⊢) | (go_at_call 41; refine hTg.mono ?_; clear hTg; rintro e W5 ⟨rfl, HT, ⟨c0, c1, c2, c3⟩, g0, g1, g2, g3⟩))
    have hV := HV.out
    have hT5 := HT.out
    have hs2 := H2.out
    have hfin := tagFin (n := (t : Int)) (ta := some ⟨b, 0, none⟩) (tn := tn) (tc := tc) (m := kids) (t := .mk ck ca cl cc ckids) (V := .mk ⟨vk, vn, vs, va, vl, vc⟩ vkids) (a' := .int .i64 3) (b' := .int .i64 t) (c' := .string ByteArray.empty) (d' := .slice (some ⟨W3.heap.size + 1 + 2, 0, none⟩) 1 1) HB.out (B := w.heap.size + 1) (by omega) (by omega) hV.2.2.1 hV.2.2.2.1 (by simpa using HCC.out) hV.2.2.2.2 hT5.1.1 hT5.1.2.1 (by omega) H8.out hT5.2
    have hr4 := setAll4 (a' := .int .i64 3) (b' := .int .i64 t) (c' := .string ByteArray.empty) (d' := .slice (some ⟨W3.heap.size + 1 + 2, 0, none⟩) 1 1) hT5.1.2.2
    rw [World.size_alloc] at hfin
    have hcp : (costN (d + 1) : Int) = 1 + 3 * costN d := by simp [costN]
    refine ⟨rfl, .tuple #[Node.val ⟨3, t, ByteArray.empty, some ⟨W3.heap.size + 1 + 2, 0, none⟩, 1, 1⟩, .int .i64 q], ?_, .mk ⟨3, t, ByteArray.empty, some ⟨W3.heap.size + 1 + 2, 0, none⟩, 1, 1⟩ [.mk ⟨vk, vn, vs, va, vl, vc⟩ vkids], q, rfl, by omega, by omega, hfin⟩
    simp [results, Tryz.f43, go_sem, World.cell?, hr4, Node.val]
end Go.Proofs.YtofboalgbgipoaaGreatDoor
