/- The least value of a type, as the reference makes it. -/
import Derived.Test.YtofboalgbgipoaaGreatDoorChkb
import Derived.Deep.AppendLies
set_option linter.all false
namespace Go.Proofs.YtofboalgbgipoaaGreatDoor
open Go.RowKit Go.Shelf
attribute [local go_sem] Oper.semAt_some

/-- A round of a loop that appends, behind one box. -/
theorem RelV.stepG {B : Nat} {W0 : World} {P : LT → Prop} {x0 x1 : Int} {x2 : ByteArray} {k : Nat} {v v' : Value} {kids : List LT} {W W3 Wa W6 : World} {c : LT} (h : RelV B W0 P x0 x1 x2 k v kids W) (hB0 : B ≤ W0.heap.size) (hb : Below W.heap.size W W3) (ha : Below W3.heap.size W3 Wa)
    (hc : IsV (fun b => W.heap.size ≤ b ∧ b < W3.heap.size) W3 c) (hok : P c) (hown : W6.ownsRow (B + 1) 24 4 v' (k + 1) (cellsV kids ++ nodeCells c.node))
    (hg : Wa.grownBy W6 v.ownBlock) (hv : v'.ownBlock = v.ownBlock ∨ ∃ g, v'.ownBlock = some g ∧ W3.heap.size ≤ g) :
    RelV B W0 P x0 x1 x2 (k + 1) v' (kids ++ [c]) (W6.setCell ⟨B, 3, none⟩ v') := by
  have hge := ownBlock_ge h.own
  have hlt : ∀ g, v.ownBlock = some g → g < W.heap.size := by
    intro g hg
    rcases h.own.2 with ⟨rfl, _⟩ | ⟨g', cap, cur, rfl, _, hh, _⟩
    · simp [Value.ownBlock] at hg
    · simp [Value.ownBlock] at hg; rw [← hg]; exact (Array.getElem?_eq_some_iff.1 hh).1
  have hB1 := (Array.getElem?_eq_some_iff.1 h.box).1
  have hs3 := hb.size
  have hsa := ha.size
  have hb5 : Below W.heap.size W Wa := hb.trans (ha.mono hs3)
  have hs6 := hg.size
  have k6 : ∀ b, b < W.heap.size → v.ownBlock ≠ some b → W6.heap[b]? = W.heap[b]? := fun b h1 h2 => (hg.block b (by omega) (fun e => h2 e.symm)).trans (hb5.block b h1)
  have ks : ∀ b, b ≠ B → (W6.setCell ⟨B, 3, none⟩ v').heap[b]? = W6.heap[b]? := fun b hne => Below.heap_setCell _ _ _ b hne
  have hsz : (W6.setCell ⟨B, 3, none⟩ v').heap.size = W6.heap.size := by simp [World.setCell]
  have box6 : W6.heap[B]? = some (.cells #[.int .i64 x0, .int .i64 x1, .string x2, v] 24 (0, 0)) := (k6 B hB1 (fun e => by have := hge _ e; omega)).trans h.box
  refine ⟨by simp [h.len], ?_, setFourth box6, ?_, ?_⟩
  · rw [cellsV_snoc]
    exact ownsRow_kept hown (fun g hg1 _ => ks g (by omega))
  · refine (h.bel.trans ?_).setCell (p := ⟨B, 3, none⟩) (by simp) _
    exact (hb5.mono (by omega)).grown hg (by omega) (fun j e => by have := hge j e; omega)
  · intro c' hc'
    rcases List.mem_append.1 hc' with hc' | hc'
    · obtain ⟨h1, h2⟩ := h.kids c' hc'
      refine ⟨h1.kept (fun b hb' => ⟨hb'.1, by omega, fun e => ?_⟩) (fun b hb' hbl => (ks b (by omega)).trans (k6 b hb'.2.1 hb'.2.2)), h2⟩
      rcases hv with hv | ⟨g, hv, hg3⟩
      · exact hb'.2.2 (hv ▸ e)
      · rw [hv] at e; cases e; omega
    · rw [List.mem_singleton.1 hc']
      have q1 : ∀ b, (W.heap.size ≤ b ∧ b < W3.heap.size) → B + 1 ≤ b ∧ b < (W6.setCell ⟨B, 3, none⟩ v').heap.size ∧ v'.ownBlock ≠ some b := fun b hb' => ⟨by omega, by omega, fun e => by
        rcases hv with hv | ⟨g, hv, hg3⟩
        · rw [hv] at e; have := hlt b e; omega
        · rw [hv] at e; cases e; omega⟩
      have q2 : ∀ b, (W.heap.size ≤ b ∧ b < W3.heap.size) → b < W3.heap.size → (W6.setCell ⟨B, 3, none⟩ v').heap[b]? = W3.heap[b]? := fun b hb' hbl =>
        ((ks b (by omega)).trans (hg.block b (by omega) (fun e => by have := hlt b e.symm; omega))).trans (ha.block b hbl)
      exact ⟨hc.kept q1 q2, hok⟩
/-- What lay ahead of the loop is there behind an append, and so is the box. -/
theorem grown5 {B : Nat} {W0 : World} {P : LT → Prop} {x0 x1 : Int} {x2 : ByteArray} {k : Nat} {v : Value} {kids : List LT} {W W5 w1 : World} {o : Obj} {b1 o1 b2 o2 o3 : Nat} {u1 u2 u3 : Value} (h : RelV B W0 P x0 x1 x2 k v kids W) (hb : Below W.heap.size W W5) (hg : (W5.alloc o).grownBy w1 v.ownBlock) (hl : b1 < B ∧ b2 < B)
    (h1 : W5.cell? ⟨b1, o1, none⟩ = some u1) (h2 : W5.cell? ⟨b2, o2, none⟩ = some u2) (h3 : W5.cell? ⟨b2, o3, none⟩ = some u3) :
    w1.cell? ⟨b1, o1, none⟩ = some u1 ∧ w1.cell? ⟨b2, o2, none⟩ = some u2 ∧ w1.cell? ⟨b2, o3, none⟩ = some u3 ∧ w1.cell? ⟨B, 3, none⟩ = some v ∧ w1.frozen? ⟨B, 3, none⟩ = false := by
  have hge := ownBlock_ge h.own
  have hB1 := (Array.getElem?_eq_some_iff.1 h.box).1
  have hs := hb.size
  have kp : ∀ b, b ≤ B → w1.heap[b]? = W5.heap[b]? := fun b hbB => (hg.block b (by simp; omega) (fun e => by have := hge _ e.symm; omega)).trans (Below.heap_alloc W5 o b (by omega))
  have hbox : w1.heap[B]? = some (.cells #[.int .i64 x0, .int .i64 x1, .string x2, v] 24 (0, 0)) := (kp B (Nat.le_refl _)).trans ((hb.block B hB1).trans h.box)
  refine ⟨(World.cell?_of_block (a := ⟨b1, o1, none⟩) (kp b1 (by omega))).trans h1, (World.cell?_of_block (a := ⟨b2, o2, none⟩) (kp b2 (by omega))).trans h2, (World.cell?_of_block (a := ⟨b2, o3, none⟩) (kp b2 (by omega))).trans h3, ?_, ?_⟩
  · exact (cells4 hbox).1.2.2.2
  · exact (cells4 hbox).2.2.2.2

set_option maxRecDepth 100000 in
set_option maxHeartbeats 8000000 in
theorem rleast_any : ∀ (d : Nat) (T : YT), typedF d T = true → ∀ (n₀ : Nat) (w : World), IsY n₀ w T → n₀ ≤ w.heap.size →
    Calls Tryz.prog 27 #[T.node.val] w (LsOut T w) := by
  intro d
  induction d with
  | zero => intro T h; simp [typedF] at h
  | succ d ih =>
    intro T hsh n₀ w hTT hn
    obtain ⟨⟨tk, ta, tl, tc⟩, m⟩ := T
    simp only [typedF, Bool.and_eq_true, List.all_eq_true] at hsh
    obtain ⟨htk, ht8⟩ := tokNode_kinds hsh.1
    have htok := hsh.1
    cases hTT with
    | mk _ _ hly _ hcy hky =>
    simp only at hly hcy htk ht8 htok
    dsimp only [YT.node, TNode.val]
    obtain ⟨W2, hW2⟩ : ∃ W2, (w.alloc (.cells #[.int .i64 tk, .slice ta tl tc] 27)).alloc (.cells #[.int .i64 0, .int .i64 0, .string ⟨#[]⟩, .slice none 0 0] 24) = W2 := ⟨_, rfl⟩
    obtain ⟨hs2, hb2, typ2, res2⟩ := begins _ _ _ _ w W2 hW2
    have IH := Lib.hid (fun (t : YT) (ht : t ∈ m) => ih t (hsh.2 t ht) n₀)
    have HY := Lib.hid hcy
    have HKY := Lib.hid hky
    have HLY := Lib.hid hly
    have HNn := Lib.hid hn
    have HR := Lib.hid res2
    have HTy := Lib.hid typ2
    have HB := Lib.hid (And.intro hb2 hs2)
    clear ih hsh hcy hky hly hn res2 typ2 hb2 hs2
    have leaf : ∀ x : Node, Hid (∀ (e : Ending) (W3 : World), Below W2.heap.size W2 W3 → ((W3.cell? ⟨w.heap.size + 1, 0, none⟩ = some (.int .i64 0) ∧ W3.cell? ⟨w.heap.size + 1, 1, none⟩ = some (.int .i64 0) ∧ W3.cell? ⟨w.heap.size + 1, 2, none⟩ = some (.string ByteArray.empty) ∧ W3.cell? ⟨w.heap.size + 1, 3, none⟩ = some (.slice none 0 0)) ∧
      (W3.frozen? ⟨w.heap.size + 1, 0, none⟩ = false ∧ W3.frozen? ⟨w.heap.size + 1, 1, none⟩ = false ∧ W3.frozen? ⟨w.heap.size + 1, 2, none⟩ = false ∧ W3.frozen? ⟨w.heap.size + 1, 3, none⟩ = false))) := fun x => Lib.hid fun e W3 hb => cells4 ((hb.block _ (Array.getElem?_eq_some_iff.1 HR.out).1).trans HR.out)
    rcases htk with rfl | rfl | rfl | rfl
    · obtain rfl : tl = 0 := by simpa [tokNode] using htok
      obtain rfl : m = [] := by have := HLY.out; exact List.eq_nil_of_length_eq_zero this.symm
      have hI : Calls Tryz.prog 35 #[.int .i64 (-2147483648)] W2 fun e W3 => e = .returned (.agg #[.int .i64 0, .int .i64 (-2147483648), .string ByteArray.empty, .slice none 0 0]) ∧ Hid (Below W2.heap.size W2 W3) ∧
          ((W3.cell? ⟨w.heap.size + 1, 0, none⟩ = some (.int .i64 0) ∧ W3.cell? ⟨w.heap.size + 1, 1, none⟩ = some (.int .i64 0) ∧ W3.cell? ⟨w.heap.size + 1, 2, none⟩ = some (.string ByteArray.empty) ∧ W3.cell? ⟨w.heap.size + 1, 3, none⟩ = some (.slice none 0 0)) ∧
          (W3.frozen? ⟨w.heap.size + 1, 0, none⟩ = false ∧ W3.frozen? ⟨w.heap.size + 1, 1, none⟩ = false ∧ W3.frozen? ⟨w.heap.size + 1, 2, none⟩ = false ∧ W3.frozen? ⟨w.heap.size + 1, 3, none⟩ = false)) :=
        (Int_any (-2147483648) W2).mono fun e W3 ⟨he, hb⟩ => ⟨he, Lib.hid hb, (leaf zeroN).out e W3 hb⟩
      rw [← hW2] at hI
      have HW := Lib.hid hW2
      clear IH HY HKY HLY HNn htok ht8 hW2 leaf
      go_enter Tryz.func27, Tryz.ntmps27
      go_wp2_with (go_at_call 35; refine hI.mono ?_; clear hI; rintro e W3 ⟨rfl, H3, ⟨c0, c1, c2, c3⟩, z0, z1, z2, z3⟩)
      have h3 := H3.out
      rw [HW.out] at h3
      have hr4 := setAll4 (a' := .int .i64 0) (b' := .int .i64 (-2147483648)) (c' := .string ByteArray.empty) (d' := .slice none 0 0) ((h3.block _ (Array.getElem?_eq_some_iff.1 HR.out).1).trans HR.out)
      refine ⟨rfl, Node.val ⟨0, -2147483648, ByteArray.empty, none, 0, 0⟩, ?_, .mk ⟨0, -2147483648, ByteArray.empty, none, 0, 0⟩ [], rfl, .int _ _ _ rfl rfl rfl rfl rfl, .mk _ _ rfl (by simp [maxLen]) (by simp) (fun i c hi => by simp at hi) (fun c hc => by simp at hc), below4 (HB.out.1.trans (h3.mono HB.out.1.size)) (by omega)⟩
      simp [results, Tryz.f27, go_sem, World.cell?, hr4, Node.val]
    · obtain rfl : tl = 0 := by simpa [tokNode] using htok
      obtain rfl : m = [] := by have := HLY.out; exact List.eq_nil_of_length_eq_zero this.symm
      have hI : Calls Tryz.prog 36 #[.string ⟨#[]⟩] W2 fun e W3 => e = .returned (.agg #[.int .i64 1, .int .i64 0, .string ByteArray.empty, .slice none 0 0]) ∧ Hid (Below W2.heap.size W2 W3) ∧
          ((W3.cell? ⟨w.heap.size + 1, 0, none⟩ = some (.int .i64 0) ∧ W3.cell? ⟨w.heap.size + 1, 1, none⟩ = some (.int .i64 0) ∧ W3.cell? ⟨w.heap.size + 1, 2, none⟩ = some (.string ByteArray.empty) ∧ W3.cell? ⟨w.heap.size + 1, 3, none⟩ = some (.slice none 0 0)) ∧
          (W3.frozen? ⟨w.heap.size + 1, 0, none⟩ = false ∧ W3.frozen? ⟨w.heap.size + 1, 1, none⟩ = false ∧ W3.frozen? ⟨w.heap.size + 1, 2, none⟩ = false ∧ W3.frozen? ⟨w.heap.size + 1, 3, none⟩ = false)) :=
        (Text_any ⟨#[]⟩ W2).mono fun e W3 ⟨he, hb⟩ => ⟨he, Lib.hid hb, (leaf zeroN).out e W3 hb⟩
      rw [← hW2] at hI
      have HW := Lib.hid hW2
      clear IH HY HKY HLY HNn htok ht8 hW2 leaf
      go_enter Tryz.func27, Tryz.ntmps27
      go_wp2_with (go_at_call 36; refine hI.mono ?_; clear hI; rintro e W3 ⟨rfl, H3, ⟨c0, c1, c2, c3⟩, z0, z1, z2, z3⟩)
      have h3 := H3.out
      rw [HW.out] at h3
      have hr4 := setAll4 (a' := .int .i64 1) (b' := .int .i64 0) (c' := .string ByteArray.empty) (d' := .slice none 0 0) ((h3.block _ (Array.getElem?_eq_some_iff.1 HR.out).1).trans HR.out)
      refine ⟨rfl, Node.val ⟨1, 0, ByteArray.empty, none, 0, 0⟩, ?_, .mk ⟨1, 0, ByteArray.empty, none, 0, 0⟩ [], rfl, .text _ _ _ rfl rfl rfl rfl rfl, .mk _ _ rfl (by simp [maxLen]) (by simp) (fun i c hi => by simp at hi) (fun c hc => by simp at hc), below4 (HB.out.1.trans (h3.mono HB.out.1.size)) (by omega)⟩
      simp [results, Tryz.f27, go_sem, World.cell?, hr4, Node.val]
    · -- a tuple
      have ht8I : (tl : Int) ≤ 8 := by omega
      have hU : Calls Tryz.prog 38 #[.slice none 0 0] W2 fun e W3 => e = .returned (.agg #[.int .i64 2, .int .i64 0, .string ByteArray.empty, .slice none 0 0]) ∧ Hid (Below W2.heap.size W2 W3) := (Tuple_any none 0 0 W2).mono fun e W3 h => ⟨h.1, Lib.hid h.2⟩
      rw [← hW2] at hU
      have HW := Lib.hid hW2
      clear hW2 leaf
      go_enter Tryz.func27, Tryz.ntmps27
      go_wp2_with (go_at_call 38; refine hU.mono ?_; clear hU; rintro e W3 ⟨rfl, H3⟩; rw [HW.out] at H3)
      obtain ⟨hb2, hs2⟩ := HB.out
      have hB3 := H3.out
      have hs3 := hB3.size
      obtain ⟨W4, hW4⟩ : ∃ W4, W3.alloc (.cells #[.int .i64 2, .int .i64 0, .string ByteArray.empty, .slice none 0 0] 24) = W4 := ⟨_, rfl⟩
      have hw4 : Below w.heap.size w W4 := by rw [← hW4]; exact (hb2.trans (hB3.mono hb2.size)).alloc (by have := hb2.size; omega) _
      have hst := RelV.start W3 (fun _ => True) 2 0 ByteArray.empty
      rw [hW4] at hst
      have hs4 : W4.heap.size = W3.heap.size + 1 := by rw [← hW4]; simp
      have typ4 : W4.heap[w.heap.size]? = some (.cells #[.int .i64 2, .slice ta tl tc] 27 (0, 0)) := by rw [← hW4]; exact resKept HTy.out hB3 _
      have res4 : W4.heap[w.heap.size + 1]? = some (.cells #[.int .i64 0, .int .i64 0, .string ByteArray.empty, .slice none 0 0] 24 (0, 0)) := by rw [← hW4]; exact resKept HR.out hB3 _
      rw [hW4]
      have HT4 := Lib.hid typ4
      have HR4 := Lib.hid res4
      have HB4 := Lib.hid hw4
      have HZ := Lib.hid (And.intro hs2 (And.intro hs3 hs4))
      have HST := Lib.hid hst
      clear hW4 typ4 res4 hw4 hB3 hst hs2 hs3 hs4 hb2 H3
      go_loopw [4] (fun i wr => ∃ (k : Nat) (vs : List LT) (v : Value), k ≤ tl ∧ i = .int .i64 k ∧ Hid (RelV W3.heap.size W4 (fun _ => True) 2 0 ByteArray.empty k v vs wr) ∧ Hid (∀ (i : Nat) (c : LT) (t : YT), vs[i]? = some c → m[i]? = some t → LeastOf c t)) (fun i _ => tl - (intOf i).toNat)
      case atStart => exact ⟨0, [], .slice none 0 0, Nat.zero_le _, rfl, HST, Lib.hid (fun i c t h => by simp at h)⟩
      case round =>
        obtain ⟨k, vs, v, hk, rfl, HRV, HOf⟩ := hrel
        obtain ⟨va, vc, rfl⟩ := isSlice HRV.out.own
        clear HST
        have t1 : wr.cell? ⟨w.heap.size, 1, none⟩ = some (.slice ta tl tc) := (cells2 ((HRV.out.bel.block w.heap.size (by have := HZ.out; omega)).trans HT4.out)).1.2
        by_cases hlt : k < tl
        · have hkm : k < m.length := by have := HLY.out; omega
          obtain ⟨t, htt⟩ : ∃ t, m[k]? = some t := ⟨m[k], by simp [hkm]⟩
          obtain ⟨b, off, rfl, hbb, g0, g1⟩ := HY.out k t htt
          have hn := HNn.out
          have hbr : Below w.heap.size w wr := HB4.out.trans (HRV.out.bel.mono (by have := HZ.out; omega))
          have f0 := ((hbr.mono hn).cell (p := ⟨b, off + k * 2, none⟩) hbb).trans g0
          have f1 := ((hbr.mono hn).cell (p := ⟨b, off + k * 2 + 1, none⟩) hbb).trans g1
          have b3 : wr.cell? ⟨W3.heap.size, 3, none⟩ = some (.slice va k vc) := (cells4 HRV.out.box).1.2.2.2
          have hI : ∀ W, Below w.heap.size w W → Calls Tryz.prog 27 #[t.node.val] W (LsOut t W) := fun W hW =>
            IH.out t (List.mem_of_getElem? htt) W ((HKY.out t (List.mem_of_getElem? htt)).bel (hW.mono hn)) (by have := hW.size; omega)
          have HLow := Lib.hid (show w.heap.size < W3.heap.size ∧ b < W3.heap.size by have := HZ.out; omega)
          have HT := Lib.hid htt
          obtain ⟨⟨uk, ua, ul, uc⟩, ukids⟩ := t
          dsimp only [YT.node, TNode.val] at f0 f1 hI
          have HI : Hid (∀ W, Below wr.heap.size wr W → Calls Tryz.prog 27 #[.agg #[.int .i64 uk, .slice ua ul uc]] W fun e W5 => ∃ V : LT, e = .returned (.agg #[.int .i64 V.node.k, .int .i64 V.node.n, .string V.node.s, .slice V.node.a V.node.len V.node.cap]) ∧
              Hid (LeastOf V (.mk ⟨uk, ua, ul, uc⟩ ukids) ∧ IsV (fun b => wr.heap.size ≤ b ∧ b < W5.heap.size) W5 V ∧ Below wr.heap.size wr W5) ∧ W5.cell? ⟨w.heap.size, 1, none⟩ = some (.slice (some ⟨b, off, none⟩) tl tc) ∧ W5.cell? ⟨b, off + k * 2, none⟩ = some (.int .i64 uk) ∧ W5.cell? ⟨b, off + k * 2 + 1, none⟩ = some (.slice ua ul uc) ∧ W5.cell? ⟨W3.heap.size, 3, none⟩ = some (.slice va k vc)) := Lib.hid fun W hW => (hI W (hbr.trans (hW.mono hbr.size))).mono fun e W5 ⟨V, he, h1, h2, h3⟩ => by
            have hB := hW.trans (h3.mono hW.size)
            have hws := hW.size
            have kp : ∀ {b o : Nat} {v : Value}, wr.cell? ⟨b, o, none⟩ = some v → W5.cell? ⟨b, o, none⟩ = some v := fun {b o v} hc => (hB.cell (p := ⟨b, o, none⟩) (cell_lt hc)).trans hc
            exact ⟨V, he, Lib.hid ⟨h1, h2.kept (fun b hb => ⟨by omega, hb.2⟩) (fun _ _ _ => rfl), hB⟩, kp t1, kp f0, kp f1, kp b3⟩
          have HFin : Hid (∀ (W5 : World) (V : LT), LeastOf V (.mk ⟨uk, ua, ul, uc⟩ ukids) ∧ IsV (fun b => wr.heap.size ≤ b ∧ b < W5.heap.size) W5 V ∧ Below wr.heap.size wr W5 → ∀ (gg cap' : Nat) (w1 : World), w1.ownsRow (W3.heap.size + 1) 24 4 (.slice (some ⟨gg, 0, none⟩) (k + 1) cap') (k + 1) (cellsV vs ++ [.int .i64 V.node.k, .int .i64 V.node.n, .string V.node.s, .slice V.node.a V.node.len V.node.cap]) → (W5.alloc (.cells #[.int .i64 V.node.k, .int .i64 V.node.n, .string V.node.s, .slice V.node.a V.node.len V.node.cap] 24)).grownBy w1 (Value.slice va k vc).ownBlock → ((Value.slice va k vc).ownBlock = some gg ∨ gg = W5.heap.size + 1) →
              RelV W3.heap.size W4 (fun _ => True) 2 0 ByteArray.empty (k + 1) (.slice (some ⟨gg, 0, none⟩) (k + 1) cap') (vs ++ [V]) (w1.setCell ⟨W3.heap.size, 3, none⟩ (.slice (some ⟨gg, 0, none⟩) (k + 1) cap')) ∧ (∀ (i : Nat) (c : LT) (t : YT), (vs ++ [V])[i]? = some c → m[i]? = some t → LeastOf c t)) := Lib.hid fun W5 V hV gg cap' w1 hown1 hgrow hat => by
            refine ⟨HRV.out.stepG (W3 := W5) (Wa := W5.alloc _) (c := V) (by have := HZ.out; omega) hV.2.2 ((Below.refl _ _).alloc (Nat.le_refl _) _) hV.2.1 trivial hown1 hgrow (hat.imp (fun e => by rw [e]; rfl) (fun e => ⟨gg, rfl, by omega⟩)), fun i c t h1 h2 => ?_⟩
            have hlen := HRV.out.len
            by_cases hi : i < vs.length
            · rw [List.getElem?_append_left hi] at h1; exact HOf.out i c t h1 h2
            · have hlt := (List.getElem?_eq_some_iff.1 h1).1
              simp only [List.length_append, List.length_cons, List.length_nil] at hlt
              obtain rfl : i = k := by omega
              rw [List.getElem?_append_right (by omega)] at h1
              rw [HT.out] at h2
              cases h2
              simp [hlen] at h1
              subst h1
              exact hV.1
          obtain ⟨i0, hi, hz0, hz1, hz2⟩ := info_parts infoV
          have k0 : (0 : Int) ≤ (k : Int) := by omega
          have k1 : (k : Int) < (tl : Int) := by omega
          have hkk : (k : Int) ≤ 8 := by omega
          clear hI htt hkm hbb g0 g1 hbr hn IH HY HKY HLY HNn
          go_upto_region 12 with (fail)
          skip
          refine wp_region_held_drew (S := fun w' => w'.cell? ⟨w.heap.size, 1, none⟩ = some (.slice (some ⟨b, off, none⟩) tl tc) ∧ w'.cell? ⟨b, off + k * 2, none⟩ = some (.int .i64 uk) ∧ w'.cell? ⟨b, off + k * 2 + 1, none⟩ = some (.slice ua ul uc)) (by kernel_rfl) ?_ (fun hHeld => ?_)
          · go_keep
          · skip
            refine wpAnyH_take (i := 0) (v := .pointer (some ⟨W3.heap.size, 3, none⟩)) rfl (by kernel_rfl) (by kernel_rfl) (by kernel_rfl) (fun _ _ _ h => h) (Or.inl ⟨by rfl, fun w' hw' => by (try dsimp only at hw'); go_simp⟩) (by assumption) ?_
            try simp only [Act.put, List.getElem_toArray, List.getElem_cons_succ, List.getElem_cons_zero, List.setIfInBounds_toArray, List.set_cons_zero, List.set_cons_succ]
            refine wpAnyH_take (i := 2) (v := .pointer (some ⟨w.heap.size, 1, none⟩)) rfl (by kernel_rfl) (by kernel_rfl) (by kernel_rfl) (fun _ _ _ h => h) (Or.inl ⟨by rfl, fun w' hw' => by (try dsimp only at hw'); go_simp⟩) (by assumption) ?_
            try simp only [Act.put, List.getElem_toArray, List.getElem_cons_succ, List.getElem_cons_zero, List.setIfInBounds_toArray, List.set_cons_zero, List.set_cons_succ]
            refine wpAnyH_take (i := 3) (v := .slice (some ⟨b, off, none⟩) tl tc) rfl (by kernel_rfl) (by kernel_rfl) (by kernel_rfl) (fun _ _ _ h => h) (Or.inl ⟨by rfl, fun w' hw' => by (try dsimp only at hw'); go_simp⟩) (by assumption) ?_
            try simp only [Act.put, List.getElem_toArray, List.getElem_cons_succ, List.getElem_cons_zero, List.setIfInBounds_toArray, List.set_cons_zero, List.set_cons_succ]
            refine wpAnyH_take (i := 4) (v := .int .i64 k) rfl (by kernel_rfl) (by kernel_rfl) (by kernel_rfl) (fun _ _ _ h => h) (Or.inl ⟨by rfl, fun w' hw' => by (try dsimp only at hw'); go_simp⟩) (by assumption) ?_
            try simp only [Act.put, List.getElem_toArray, List.getElem_cons_succ, List.getElem_cons_zero, List.setIfInBounds_toArray, List.set_cons_zero, List.set_cons_succ]
            refine wpAnyH_take (i := 5) (v := .pointer (some ⟨b, off + k * 2, none⟩)) rfl (by kernel_rfl) (by kernel_rfl) (by kernel_rfl) (fun _ _ _ h => h) (Or.inl ⟨by rfl, fun w' hw' => by (try dsimp only at hw'); go_simp⟩) (by assumption) ?_
            try simp only [Act.put, List.getElem_toArray, List.getElem_cons_succ, List.getElem_cons_zero, List.setIfInBounds_toArray, List.set_cons_zero, List.set_cons_succ]
            refine wpAnyH_take (i := 6) (v := .agg #[.int .i64 uk, .slice ua ul uc]) rfl (by kernel_rfl) (by kernel_rfl) (by kernel_rfl) (fun _ _ _ h => h) (Or.inl ⟨by rfl, fun w' hw' => by (try dsimp only at hw'); go_simp⟩) (by assumption) ?_
            try simp only [Act.put, List.getElem_toArray, List.getElem_cons_succ, List.getElem_cons_zero, List.setIfInBounds_toArray, List.set_cons_zero, List.set_cons_succ]
            refine wpAnyH_ready (rs := [1, 7]) (by kernel_rfl) (by simp) ?_
            refine AllReadyH.cons rfl (fun K hK => ?_) (AllReadyH.cons rfl (fun K hK => ?_) AllReadyH.nil)
            · skip
              go_simp
              refine hK.out _ _ ?_ (fun hHeld => ?_)
              · (first | exact ⟨by assumption, by assumption, by assumption⟩ | go_keep)
              clear hK K
              try simp only [Act.put, List.getElem_toArray, List.getElem_cons_succ, List.getElem_cons_zero, List.setIfInBounds_toArray, List.set_cons_zero, List.set_cons_succ]
              refine wpAnyH_ready (rs := [7]) (by kernel_rfl) (by simp) ?_
              refine AllReadyH.cons rfl (fun K hK => ?_) AllReadyH.nil
              go_simp
              (go_at_call 27; (with_reducible refine (HI.out _ ?_).mono ?_); (first | exact (Below.refl _ _) | exact (Below.refl _ _).drew); rintro e W5 ⟨⟨⟨vk, vn, vs', va', vl, vc'⟩, vkids⟩, rfl, HV, q1, q2, q3, q4⟩; dsimp only [LT.node]; have p1 := fun o => Below.cell_al o q1; have p2 := fun o => Below.cell_al o q2; have p3 := fun o => Below.cell_al o q3; have p4 := fun o => Below.cell_al o q4)
              go_wp2_with (fail)
              refine hK.out _ _ ?_ (fun hHeld => ?_)
              · (first | exact ⟨by assumption, by assumption, by assumption⟩ | go_keep)
              clear hK K
              try simp only [Act.put, List.getElem_toArray, List.getElem_cons_succ, List.getElem_cons_zero, List.setIfInBounds_toArray, List.set_cons_zero, List.set_cons_succ]
              refine wpAnyH_ready (rs := [8]) (by kernel_rfl) (by simp) ?_
              refine AllReadyH.cons rfl (fun K hK => ?_) AllReadyH.nil
              go_simp
              refine hK.out _ _ ?_ (fun hHeld => ?_)
              · (first | exact ⟨by assumption, by assumption, by assumption⟩ | go_keep)
              clear hK K
              try simp only [Act.put, List.getElem_toArray, List.getElem_cons_succ, List.getElem_cons_zero, List.setIfInBounds_toArray, List.set_cons_zero, List.set_cons_succ]
              refine wpAnyH_ready (rs := [9]) (by kernel_rfl) (by simp) ?_
              refine AllReadyH.cons rfl (fun K hK => ?_) AllReadyH.nil
              refine step_append_lies _ (by rfl) (.tmp 30) (.tmp 37) 22 (by rfl) (W3.heap.size + 1) 24 i0 (.agg #[.int .i64 0, .int .i64 0, .string ByteArray.empty, .slice none 0 0]) 4 56 undV hi hz0 hz1 hz2 rfl (by decide) (.slice va k vc) k _ (by simp [Act.eval, Act.put]) (ownsRow_kept HRV.out.own (fun g _ hg => (Below.heap_alloc _ _ g (by have := HV.out.2.2.size; omega)).trans (HV.out.2.2.block g hg))) ⟨W5.heap.size, 0, none⟩ 1 1 [.int .i64 vk, .int .i64 vn, .string vs', .slice va' vl vc'] (by simp [Act.eval, Act.put]) rfl (World.news_of_block (cs := #[.int .i64 vk, .int .i64 vn, .string vs', .slice va' vl vc']) (t := 24) (fr := (0, 0)) (World.alloc_heap_new W5 _)) (by simp [Value.oneCell']) (by omega) (by unfold maxLen; omega) (by omega) (by have := HV.out.2.2.size; have := (Array.getElem?_eq_some_iff.1 HRV.out.box).1; simp; omega) (W5.heap.size + 1) (by simp) ?_
              intro gg cap' w1 hown1 hgrow hat hlt1
              obtain ⟨r1, r2, r3, r4, r5⟩ := grown5 HRV.out HV.out.2.2 hgrow HLow.out q1 q2 q3
              refine hK.out _ _ ?_ (fun hHeld => ?_)
              · exact ⟨r1, r2, r3⟩
              clear hK K
              try simp only [Act.put, List.getElem_toArray, List.getElem_cons_succ, List.getElem_cons_zero, List.setIfInBounds_toArray, List.set_cons_zero, List.set_cons_succ]
              refine wpAnyH_take (i := 10) (v := .pointer (some ⟨W3.heap.size, 3, none⟩)) rfl (by kernel_rfl) (by kernel_rfl) (by kernel_rfl) (fun _ _ _ h => h) (Or.inl ⟨by rfl, fun w' hw' => by (try dsimp only at hw'); go_simp⟩) (by assumption) ?_
              try simp only [Act.put, List.getElem_toArray, List.getElem_cons_succ, List.getElem_cons_zero, List.setIfInBounds_toArray, List.set_cons_zero, List.set_cons_succ]
              refine wpAnyH_ready (rs := [11]) (by kernel_rfl) (by simp) ?_
              refine AllReadyH.cons rfl (fun K hK => ?_) AllReadyH.nil
              go_simp
              refine hK.out _ _ ?_ (fun hHeld => ?_)
              · exact ⟨(World.cell?_setCell_far _ _ _ _ (by have := HLow.out; simp; omega)).trans r1, (World.cell?_setCell_far _ _ _ _ (by have := HLow.out; simp; omega)).trans r2, (World.cell?_setCell_far _ _ _ _ (by have := HLow.out; simp; omega)).trans r3⟩
              clear hK K
              try simp only [Act.put, List.getElem_toArray, List.getElem_cons_succ, List.getElem_cons_zero, List.setIfInBounds_toArray, List.set_cons_zero, List.set_cons_succ]
              refine wpAnyH_done (by kernel_rfl) ?_ _
              go_wp2_with (fail)
              go_roundw
              case rel =>
                have hF := HFin.out W5 (.mk ⟨vk, vn, vs', va', vl, vc'⟩ vkids) HV.out gg cap' w1 hown1 hgrow hat
                exact ⟨k + 1, _, _, by omega, by go_num, Lib.hid hF.1, Lib.hid hF.2⟩
              case measure => simp [intOf]; omega
            · skip
              go_simp
              (go_at_call 27; (with_reducible refine (HI.out _ ?_).mono ?_); (first | exact (Below.refl _ _) | exact (Below.refl _ _).drew); rintro e W5 ⟨⟨⟨vk, vn, vs', va', vl, vc'⟩, vkids⟩, rfl, HV, q1, q2, q3, q4⟩; dsimp only [LT.node]; have p1 := fun o => Below.cell_al o q1; have p2 := fun o => Below.cell_al o q2; have p3 := fun o => Below.cell_al o q3; have p4 := fun o => Below.cell_al o q4)
              go_wp2_with (fail)
              refine hK.out _ _ ?_ (fun hHeld => ?_)
              · (first | exact ⟨by assumption, by assumption, by assumption⟩ | go_keep)
              clear hK K
              try simp only [Act.put, List.getElem_toArray, List.getElem_cons_succ, List.getElem_cons_zero, List.setIfInBounds_toArray, List.set_cons_zero, List.set_cons_succ]
              refine wpAnyH_ready (rs := [1, 8]) (by kernel_rfl) (by simp) ?_
              refine AllReadyH.cons rfl (fun K hK => ?_) (AllReadyH.cons rfl (fun K hK => ?_) AllReadyH.nil)
              · skip
                go_simp
                refine hK.out _ _ ?_ (fun hHeld => ?_)
                · (first | exact ⟨by assumption, by assumption, by assumption⟩ | go_keep)
                clear hK K
                try simp only [Act.put, List.getElem_toArray, List.getElem_cons_succ, List.getElem_cons_zero, List.setIfInBounds_toArray, List.set_cons_zero, List.set_cons_succ]
                refine wpAnyH_ready (rs := [8]) (by kernel_rfl) (by simp) ?_
                refine AllReadyH.cons rfl (fun K hK => ?_) AllReadyH.nil
                go_simp
                refine hK.out _ _ ?_ (fun hHeld => ?_)
                · (first | exact ⟨by assumption, by assumption, by assumption⟩ | go_keep)
                clear hK K
                try simp only [Act.put, List.getElem_toArray, List.getElem_cons_succ, List.getElem_cons_zero, List.setIfInBounds_toArray, List.set_cons_zero, List.set_cons_succ]
                refine wpAnyH_ready (rs := [9]) (by kernel_rfl) (by simp) ?_
                refine AllReadyH.cons rfl (fun K hK => ?_) AllReadyH.nil
                refine step_append_lies _ (by rfl) (.tmp 30) (.tmp 37) 22 (by rfl) (W3.heap.size + 1) 24 i0 (.agg #[.int .i64 0, .int .i64 0, .string ByteArray.empty, .slice none 0 0]) 4 56 undV hi hz0 hz1 hz2 rfl (by decide) (.slice va k vc) k _ (by simp [Act.eval, Act.put]) (ownsRow_kept HRV.out.own (fun g _ hg => (Below.heap_alloc _ _ g (by have := HV.out.2.2.size; omega)).trans (HV.out.2.2.block g hg))) ⟨W5.heap.size, 0, none⟩ 1 1 [.int .i64 vk, .int .i64 vn, .string vs', .slice va' vl vc'] (by simp [Act.eval, Act.put]) rfl (World.news_of_block (cs := #[.int .i64 vk, .int .i64 vn, .string vs', .slice va' vl vc']) (t := 24) (fr := (0, 0)) (World.alloc_heap_new W5 _)) (by simp [Value.oneCell']) (by omega) (by unfold maxLen; omega) (by omega) (by have := HV.out.2.2.size; have := (Array.getElem?_eq_some_iff.1 HRV.out.box).1; simp; omega) (W5.heap.size + 1) (by simp) ?_
                intro gg cap' w1 hown1 hgrow hat hlt1
                obtain ⟨r1, r2, r3, r4, r5⟩ := grown5 HRV.out HV.out.2.2 hgrow HLow.out q1 q2 q3
                refine hK.out _ _ ?_ (fun hHeld => ?_)
                · exact ⟨r1, r2, r3⟩
                clear hK K
                try simp only [Act.put, List.getElem_toArray, List.getElem_cons_succ, List.getElem_cons_zero, List.setIfInBounds_toArray, List.set_cons_zero, List.set_cons_succ]
                refine wpAnyH_take (i := 10) (v := .pointer (some ⟨W3.heap.size, 3, none⟩)) rfl (by kernel_rfl) (by kernel_rfl) (by kernel_rfl) (fun _ _ _ h => h) (Or.inl ⟨by rfl, fun w' hw' => by (try dsimp only at hw'); go_simp⟩) (by assumption) ?_
                try simp only [Act.put, List.getElem_toArray, List.getElem_cons_succ, List.getElem_cons_zero, List.setIfInBounds_toArray, List.set_cons_zero, List.set_cons_succ]
                refine wpAnyH_ready (rs := [11]) (by kernel_rfl) (by simp) ?_
                refine AllReadyH.cons rfl (fun K hK => ?_) AllReadyH.nil
                go_simp
                refine hK.out _ _ ?_ (fun hHeld => ?_)
                · exact ⟨(World.cell?_setCell_far _ _ _ _ (by have := HLow.out; simp; omega)).trans r1, (World.cell?_setCell_far _ _ _ _ (by have := HLow.out; simp; omega)).trans r2, (World.cell?_setCell_far _ _ _ _ (by have := HLow.out; simp; omega)).trans r3⟩
                clear hK K
                try simp only [Act.put, List.getElem_toArray, List.getElem_cons_succ, List.getElem_cons_zero, List.setIfInBounds_toArray, List.set_cons_zero, List.set_cons_succ]
                refine wpAnyH_done (by kernel_rfl) ?_ _
                go_wp2_with (fail)
                go_roundw
                case rel =>
                  have hF := HFin.out W5 (.mk ⟨vk, vn, vs', va', vl, vc'⟩ vkids) HV.out gg cap' w1 hown1 hgrow hat
                  exact ⟨k + 1, _, _, by omega, by go_num, Lib.hid hF.1, Lib.hid hF.2⟩
                case measure => simp [intOf]; omega
              · skip
                go_simp
                refine hK.out _ _ ?_ (fun hHeld => ?_)
                · (first | exact ⟨by assumption, by assumption, by assumption⟩ | go_keep)
                clear hK K
                try simp only [Act.put, List.getElem_toArray, List.getElem_cons_succ, List.getElem_cons_zero, List.setIfInBounds_toArray, List.set_cons_zero, List.set_cons_succ]
                refine wpAnyH_ready (rs := [1]) (by kernel_rfl) (by simp) ?_
                refine AllReadyH.cons rfl (fun K hK => ?_) AllReadyH.nil
                go_simp
                refine hK.out _ _ ?_ (fun hHeld => ?_)
                · (first | exact ⟨by assumption, by assumption, by assumption⟩ | go_keep)
                clear hK K
                try simp only [Act.put, List.getElem_toArray, List.getElem_cons_succ, List.getElem_cons_zero, List.setIfInBounds_toArray, List.set_cons_zero, List.set_cons_succ]
                refine wpAnyH_ready (rs := [9]) (by kernel_rfl) (by simp) ?_
                refine AllReadyH.cons rfl (fun K hK => ?_) AllReadyH.nil
                refine step_append_lies _ (by rfl) (.tmp 30) (.tmp 37) 22 (by rfl) (W3.heap.size + 1) 24 i0 (.agg #[.int .i64 0, .int .i64 0, .string ByteArray.empty, .slice none 0 0]) 4 56 undV hi hz0 hz1 hz2 rfl (by decide) (.slice va k vc) k _ (by simp [Act.eval, Act.put]) (ownsRow_kept HRV.out.own (fun g _ hg => (Below.heap_alloc _ _ g (by have := HV.out.2.2.size; omega)).trans (HV.out.2.2.block g hg))) ⟨W5.heap.size, 0, none⟩ 1 1 [.int .i64 vk, .int .i64 vn, .string vs', .slice va' vl vc'] (by simp [Act.eval, Act.put]) rfl (World.news_of_block (cs := #[.int .i64 vk, .int .i64 vn, .string vs', .slice va' vl vc']) (t := 24) (fr := (0, 0)) (World.alloc_heap_new W5 _)) (by simp [Value.oneCell']) (by omega) (by unfold maxLen; omega) (by omega) (by have := HV.out.2.2.size; have := (Array.getElem?_eq_some_iff.1 HRV.out.box).1; simp; omega) (W5.heap.size + 1) (by simp) ?_
                intro gg cap' w1 hown1 hgrow hat hlt1
                obtain ⟨r1, r2, r3, r4, r5⟩ := grown5 HRV.out HV.out.2.2 hgrow HLow.out q1 q2 q3
                refine hK.out _ _ ?_ (fun hHeld => ?_)
                · exact ⟨r1, r2, r3⟩
                clear hK K
                try simp only [Act.put, List.getElem_toArray, List.getElem_cons_succ, List.getElem_cons_zero, List.setIfInBounds_toArray, List.set_cons_zero, List.set_cons_succ]
                refine wpAnyH_take (i := 10) (v := .pointer (some ⟨W3.heap.size, 3, none⟩)) rfl (by kernel_rfl) (by kernel_rfl) (by kernel_rfl) (fun _ _ _ h => h) (Or.inl ⟨by rfl, fun w' hw' => by (try dsimp only at hw'); go_simp⟩) (by assumption) ?_
                try simp only [Act.put, List.getElem_toArray, List.getElem_cons_succ, List.getElem_cons_zero, List.setIfInBounds_toArray, List.set_cons_zero, List.set_cons_succ]
                refine wpAnyH_ready (rs := [11]) (by kernel_rfl) (by simp) ?_
                refine AllReadyH.cons rfl (fun K hK => ?_) AllReadyH.nil
                go_simp
                refine hK.out _ _ ?_ (fun hHeld => ?_)
                · exact ⟨(World.cell?_setCell_far _ _ _ _ (by have := HLow.out; simp; omega)).trans r1, (World.cell?_setCell_far _ _ _ _ (by have := HLow.out; simp; omega)).trans r2, (World.cell?_setCell_far _ _ _ _ (by have := HLow.out; simp; omega)).trans r3⟩
                clear hK K
                try simp only [Act.put, List.getElem_toArray, List.getElem_cons_succ, List.getElem_cons_zero, List.setIfInBounds_toArray, List.set_cons_zero, List.set_cons_succ]
                refine wpAnyH_done (by kernel_rfl) ?_ _
                go_wp2_with (fail)
                go_roundw
                case rel =>
                  have hF := HFin.out W5 (.mk ⟨vk, vn, vs', va', vl, vc'⟩ vkids) HV.out gg cap' w1 hown1 hgrow hat
                  exact ⟨k + 1, _, _, by omega, by go_num, Lib.hid hF.1, Lib.hid hF.2⟩
                case measure => simp [intOf]; omega
        · obtain rfl : k = tl := by omega
          have hz := HZ.out
          have hr4' := (HRV.out.bel.block (w.heap.size + 1) (by omega)).trans HR4.out
          obtain ⟨⟨r0, r1, r2, r3⟩, z0, z1, z2, z3⟩ := cells4 hr4'
          obtain ⟨⟨b0, b1, b2, b3⟩, _⟩ := cells4 HRV.out.box
          have hlen := HRV.out.len
          have HM := Lib.hid (show vs.length = m.length by have := HLY.out; omega)
          have HR5 := Lib.hid hr4'
          clear hr4' hz IH HY HKY HLY HNn
          go_wp2_with (fail)
          have hz := HZ.out
          have hr5 := setAll4 (a' := .int .i64 2) (b' := .int .i64 0) (c' := .string ByteArray.empty) (d' := .slice va k vc) HR5.out
          have hV := (HRV.out.isV (by omega) (by simp [maxLen]))
          refine ⟨rfl, Node.val ⟨2, 0, ByteArray.empty, va, k, vc⟩, ?_, .mk ⟨2, 0, ByteArray.empty, va, k, vc⟩ vs, rfl, .tuple _ _ _ _ rfl rfl rfl rfl hlen.symm HM.out HOf.out, hV.kept (fun b hb => ⟨by omega, by rw [size4]; omega⟩) (fun b hb _ => heap4 (by omega)), below4 (HB4.out.trans (HRV.out.bel.mono (by omega))) (by omega)⟩
          simp [results, Tryz.f27, go_sem, World.cell?, hr5, Node.val]
    · -- a sum
      have htok' : 1 ≤ tl := by simp [tokNode] at htok; omega
      obtain ⟨t, m, rfl⟩ : ∃ t r, m = t :: r := by
        have := HLY.out
        match m, this with
        | t :: r, _ => exact ⟨t, r, rfl⟩
        | [], h => simp at h; omega
      obtain ⟨b, off, rfl, hbb, g0, g1⟩ := HY.out 0 t (by simp)
      simp only [Nat.zero_mul, Nat.add_zero] at g0 g1
      have hb2 := HB.out.1
      have hn := HNn.out
      have f0 := ((hb2.mono hn).cell (p := ⟨b, off, none⟩) hbb).trans g0
      have f1 := ((hb2.mono hn).cell (p := ⟨b, off + 1, none⟩) hbb).trans g1
      have hI := IH.out t (by simp) W2 ((HKY.out t (by simp)).bel (hb2.mono hn)) (by have := hb2.size; omega)
      obtain ⟨⟨uk, ua, ul, uc⟩, ukids⟩ := t
      dsimp only [YT.node, TNode.val] at f0 f1 hI
      have hI' : Calls Tryz.prog 27 #[.agg #[.int .i64 uk, .slice ua ul uc]] W2 fun e W3 => ∃ V : LT, e = .returned (.agg #[.int .i64 V.node.k, .int .i64 V.node.n, .string V.node.s, .slice V.node.a V.node.len V.node.cap]) ∧
          Hid (LeastOf V (.mk ⟨uk, ua, ul, uc⟩ ukids) ∧ IsV (fun b => W2.heap.size ≤ b ∧ b < W3.heap.size) W3 V ∧ Below W2.heap.size W2 W3) :=
        hI.mono fun e W3 ⟨V, he, h⟩ => ⟨V, he, Lib.hid h⟩
      rw [← hW2] at hI' f0 f1
      have HW := Lib.hid hW2
      have htlI : (0 : Int) < (tl : Int) := by omega
      clear hW2 hI g0 g1 hbb hn IH HY HKY HLY HNn hb2 htok leaf
      go_enter Tryz.func27, Tryz.ntmps27
      go_wp2_with (first
        | (go_at_call 27; refine hI'.mono ?_; clear hI'; rintro e W3 ⟨⟨⟨vk, vn, vs, va, vl, vc⟩, vkids⟩, rfl, HV⟩; rw [HW.out] at HV; have hL := Tag_keep 0 ⟨vk, vn, vs, va, vl, vc⟩ W3 (w.heap.size + 1) _ _ _ _ _ ((HV.out.2.2.block _ (Array.getElem?_eq_some_iff.1 HR.out).1).trans HR.out); dsimp only [LT.node, Node.val] at hL ⊢)
        | (go_at_call 41; refine hL.mono ?_; clear hL; rintro e W5 ⟨rfl, H5, ⟨c0, c1, c2, c3⟩, z0, z1, z2, z3⟩))
      obtain ⟨⟨h51, h52, h53⟩, h54⟩ := H5.out
      obtain ⟨hV1, hV2, hV3⟩ := HV.out
      obtain ⟨hb2, hs2⟩ := HB.out
      have hs3 := hV3.size
      have hr4 := setAll4 (a' := .int .i64 3) (b' := .int .i64 0) (c' := .string ByteArray.empty) (d' := .slice (some ⟨W3.heap.size + 2, 0, none⟩) 1 1) h53
      refine ⟨rfl, Node.val ⟨3, 0, ByteArray.empty, some ⟨W3.heap.size + 2, 0, none⟩, 1, 1⟩, ?_, .mk ⟨3, 0, ByteArray.empty, some ⟨W3.heap.size + 2, 0, none⟩, 1, 1⟩ [.mk ⟨vk, vn, vs, va, vl, vc⟩ vkids], rfl, .sum _ _ _ _ _ rfl rfl rfl rfl rfl hV1, .mk _ _ rfl (by simp [maxLen]) (by simp) (fun i c hi => ?_) (fun c hc => ?_), below4 ((hb2.trans (hV3.mono hb2.size)).trans (h52.mono (by omega))) (by omega)⟩
      · simp [results, Tryz.f27, go_sem, World.cell?, hr4, Node.val]
      · rcases i with _ | i
        · simp at hi
          subst hi
          have hh : ((((W5.setCell ⟨w.heap.size + 1, 0, none⟩ (.int .i64 3)).setCell ⟨w.heap.size + 1, 1, none⟩ (.int .i64 0)).setCell ⟨w.heap.size + 1, 2, none⟩ (.string ByteArray.empty)).setCell ⟨w.heap.size + 1, 3, none⟩ (.slice (some ⟨W3.heap.size + 2, 0, none⟩) 1 1)).heap[W3.heap.size + 2]? = W5.heap[W3.heap.size + 2]? := heap4 (by omega)
          exact ⟨_, rfl, ⟨by omega, by rw [size4]; omega⟩, (World.cell?_of_block (a := ⟨_, _, none⟩) hh).trans (by simpa [LT.node] using h54.1), (World.cell?_of_block (a := ⟨_, _, none⟩) hh).trans (by simpa [LT.node] using h54.2.1), (World.cell?_of_block (a := ⟨_, _, none⟩) hh).trans (by simpa [LT.node] using h54.2.2.1), (World.cell?_of_block (a := ⟨_, _, none⟩) hh).trans (by simpa [LT.node] using h54.2.2.2)⟩
        · simp at hi
      · rw [List.mem_singleton.1 hc]
        exact hV2.kept (fun b hb => ⟨by omega, by rw [size4]; omega⟩) (fun b hb hl => (heap4 (by omega)).trans (h52.block b hl))
end Go.Proofs.YtofboalgbgipoaaGreatDoor
