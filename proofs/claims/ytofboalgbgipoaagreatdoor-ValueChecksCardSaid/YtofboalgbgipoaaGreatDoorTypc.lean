/- The walk over a tree of values. -/
import Derived.Test.YtofboalgbgipoaaGreatDoorTypb
set_option linter.all false
namespace Go.Proofs.YtofboalgbgipoaaGreatDoor
open Go.RowKit Go.Shelf
attribute [local go_sem] Oper.semAt_some
set_option maxRecDepth 100000 in
set_option maxHeartbeats 2000000 in
theorem twalk_in (F : Fence) (hd : F.depth = none) (hw : F.fn 76) (hp : F.fn 49) (hro : F.round = none) (l n₀ q N by_ bp bk : Nat) (G : Int × TNode → Prop) (J Jx : List (Int × TNode) → World → Prop)
    (hqy : by_ ≠ q) (hqp : bp ≠ q) (hqk : bk ≠ q)
    (hJ : ∀ s W W', J s W → Below W.heap.size W W' → J s W')
    (hY : ∀ m pre (x : Int × TNode) W, G x → J pre W → pre.length < N → YieldAt F m Tryz.prog l #[.int .i64 x.1, x.2.val] W fun e W' =>
      (e = .returned (.bool true) ∧ J (pre ++ [x]) W' ∧ Kc n₀ q W W') ∨ (e = .returned (.bool false) ∧ Jx (pre ++ [x]) W')) :
    ∀ (sz : Nat) (T : YT), T.ht ≤ sz → ∀ (n : Nat) (pre : List (Int × TNode)) (d : Int) (W : World), IsY n₀ W T → J pre W →
      W.cell? ⟨by_, 0, none⟩ = some (.func (.yield l) #[] #[]) → W.cell? ⟨bp, 0, none⟩ = some (.func (.func 49) #[] #[]) →
      W.cell? ⟨bk, 0, none⟩ = some (.func (.func 76) #[] #[.pointer (some ⟨by_, 0, none⟩), .pointer (some ⟨bp, 0, none⟩), .pointer (some ⟨bk, 0, none⟩)]) →
      pre.length + (T.preW d).length ≤ N → n₀ ≤ W.heap.size → q < W.heap.size → (∀ y ∈ T.preW d, G y) →
      CallsIn F n Tryz.prog 76 #[T.node.val, .int .i64 d, .pointer (some ⟨by_, 0, none⟩), .pointer (some ⟨bp, 0, none⟩), .pointer (some ⟨bk, 0, none⟩)] W fun e W' =>
        (e = .returned (.bool true) ∧ J (pre ++ T.preW d) W' ∧ Kc n₀ q W W') ∨ (e = .returned (.bool false) ∧ ∃ p, p <+: T.preW d ∧ Jx (pre ++ p) W') := by
  intro sz
  induction sz with
  | zero => intro T hT; cases T; simp [YT.ht] at hT
  | succ sz ih =>
    intro T hT n pre d W ht hJ0 cy cp ck hN hn0 hq0 hG
    have hdd : ∀ k : Nat, (F.depth.isSome = true → 1 ≤ k) := fun k h => by rw [hd] at h; cases h
    obtain ⟨x, kids, hlen, hm, hc, hk⟩ := ht
    obtain ⟨xk, xa, xl, xc⟩ := x
    simp only at hlen hm hc
    -- the round for this node, behind the box of the value
    obtain ⟨W1, hW1⟩ : ∃ W1, W.alloc (.cells #[.int .i64 xk, .slice xa xl xc] 27) = W1 := ⟨_, rfl⟩
    have hb1 : Below W.heap.size W W1 := by rw [← hW1]; exact (Below.refl _ _).alloc (Nat.le_refl _) _
    have hJ1 : J pre W1 := hJ _ _ _ hJ0 hb1
    have hlt : pre.length < N := by simp only [YT.preW, List.length_cons] at hN; omega
    obtain ⟨fn, tmps, assign, body, hy, hR⟩ := hY (n - 1) pre ((d : Int), (⟨xk, xa, xl, xc⟩ : TNode)) W1 (hG _ (by simp [YT.preW])) hJ1 hlt
    dsimp only at hy
    have HG := Lib.hid hG
    clear hG
    have hR' := hR.mono (R' := fun e W2 => (e = .returned (.bool true) ∧ J (pre ++ [((d : Int), (⟨xk, xa, xl, xc⟩ : TNode))]) W2 ∧ Kc n₀ q W W2 ∧ W2.cell? ⟨bp, 0, none⟩ = some (.func (.func 49) #[] #[]) ∧
        W2.cell? ⟨W.heap.size, 0, none⟩ = some (.int .i64 xk) ∧ W2.cell? ⟨W.heap.size, 1, none⟩ = some (.slice xa xl xc)) ∨
        (e = .returned (.bool false) ∧ Jx (pre ++ [((d : Int), (⟨xk, xa, xl, xc⟩ : TNode))]) W2)) (fun e W2 h => h.elim (fun ⟨he, hj, hk2⟩ => .inl ⟨he, hj, (Kc.of_below hb1 hn0).trans hk2, hk2.cell hqp ((hb1.cell (p := ⟨bp, 0, none⟩) (cell_lt cp)).trans cp),
          hk2.cell (by omega) (by rw [← hW1]; simp [go_sem]), hk2.cell (by omega) (by rw [← hW1]; simp [go_sem])⟩) .inr)
    clear hR hY
    have cy1 := (hb1.cell (p := ⟨by_, 0, none⟩) (cell_lt cy)).trans cy
    have HL := Lib.hid hlen
    clear hlen
    have HW := Lib.hid hW1
    rw [← hW1] at hy hR' cy1
    clear hW1
    refine callsIn_of_wp Tryz.func76 rfl hw ?_ hro
    simp only [Tryz.ntmps76, List.size_toArray, List.length_cons, List.length_nil, Nat.reduceAdd, Nat.reduceSub, Array.replicate_succ, Array.replicate_zero, List.push_toArray, List.append_toArray, List.nil_append, List.cons_append, YT.node]
    gi_wp2_with (first
      | ((try refine ⟨hdd _, ?_⟩); refine hR'.mono ?_; clear hR'; rintro e W2 (⟨rfl, hJ2, hk2, cp2, c0, c1⟩ | ⟨rfl, hx2⟩))
      | ((try refine ⟨hdd _, ?_⟩); gi_at_call 49; refine (tparts_in F _ hp hro ⟨xk, xa, xl, xc⟩ _).mono ?_; rintro e W3 ⟨rfl, hb3⟩))
    · have hJ3 : J (pre ++ [((d : Int), (⟨xk, xa, xl, xc⟩ : TNode))]) W3 := hJ _ _ _ hJ2 hb3
      have hk3 : Kc n₀ q W W3 := hk2.trans (Kc.of_below hb3 (by have := hk2.1.size; omega))
      gi_loopw [19] (fun i wr => ∃ k : Nat, k ≤ xl ∧ i = .int .i64 k ∧ J (pre ++ (((d : Int), (⟨xk, xa, xl, xc⟩ : TNode)) :: YT.preWL (wrap64 (d + 1)) (kids.take k))) wr ∧ Kc n₀ q W wr) (fun i _ => xl - (intOf i).toNat)
      case atStart => exact ⟨0, Nat.zero_le _, rfl, by simpa [YT.preWL] using hJ3, hk3⟩
      case round =>
        obtain ⟨k, hk', rfl, hJk, hkk⟩ := hrel
        by_cases hlt : k < xl
        · have hkl : k < kids.length := by rw [← HL.out]; exact hlt
          obtain ⟨c, hck⟩ : ∃ c, kids[k]? = some c := ⟨kids[k], by simp [hkl]⟩
          have hcm : c ∈ kids := List.mem_of_getElem? hck
          obtain ⟨b, off, rfl, hb, e0, e1⟩ := hc k c hck
          have f0 := (hkk.1.cell (p := ⟨b, off + k * 2, none⟩) hb).trans e0
          have f1 := (hkk.1.cell (p := ⟨b, off + k * 2 + 1, none⟩) hb).trans e1
          obtain ⟨V, hV⟩ : ∃ V, wr.alloc (.cells #[.int .i64 c.node.k, .slice c.node.a c.node.len c.node.cap] 27) = V := ⟨_, rfl⟩
          have hbV : Below wr.heap.size wr V := by rw [← hV]; exact (Below.refl _ _).alloc (Nat.le_refl _) _
          have hnr : n₀ ≤ wr.heap.size := by have := hkk.1.size; omega
          have hqr : q < wr.heap.size := by have := hkk.1.size; omega
          have hVs := hbV.size
          have hkV : Kc n₀ q W V := hkk.trans (Kc.of_below hbV hnr)
          have ckV := hkV.cell hqk ck
          have hpl := YT.preW_le_preWL (wrap64 (d + 1)) hck
          have ihc : ∀ m, CallsIn F m Tryz.prog 76 #[.agg #[.int .i64 c.node.k, .slice c.node.a c.node.len c.node.cap], .int .i64 (wrap64 (d + 1)), .pointer (some ⟨by_, 0, none⟩), .pointer (some ⟨bp, 0, none⟩), .pointer (some ⟨bk, 0, none⟩)] V fun e W' =>
              (e = .returned (.bool true) ∧ J (pre ++ (((d : Int), (⟨xk, some ⟨b, off, none⟩, xl, xc⟩ : TNode)) :: YT.preWL (wrap64 (d + 1)) (kids.take k)) ++ c.preW (wrap64 (d + 1))) W' ∧ Kc n₀ q V W') ∨ (e = .returned (.bool false) ∧ ∃ p, p <+: c.preW (wrap64 (d + 1)) ∧ Jx (pre ++ (((d : Int), (⟨xk, some ⟨b, off, none⟩, xl, xc⟩ : TNode)) :: YT.preWL (wrap64 (d + 1)) (kids.take k)) ++ p) W') := fun m => by
            have hht := YT.ht_mem hcm
            simp only [YT.ht] at hT
            simp only [YT.preW, List.length_cons] at hN
            have := ih c (by omega) m (pre ++ (((d : Int), (⟨xk, some ⟨b, off, none⟩, xl, xc⟩ : TNode)) :: YT.preWL (wrap64 (d + 1)) (kids.take k))) (wrap64 (d + 1)) V ((hk c hcm).bel hkV.1) (hJ _ _ _ hJk hbV) (hkV.cell hqy cy) (hkV.cell hqp cp) ckV
              (by simp only [List.length_append, List.length_cons]; omega) (by omega) (by omega)
              (by
                intro y hy
                refine HG.out y ?_
                simp only [YT.preW]
                exact List.mem_cons_of_mem _ ((YT.preWL_prefix _ kids (k + 1)).subset (by rw [YT.preWL_take _ hck]; exact List.mem_append_right _ hy)))
            exact this
          have HV := Lib.hid hV
          rw [← hV] at ckV ihc
          clear hV hpl hVs
          clear ih hk hc
          gi_wp2_with ((try refine ⟨hdd _, ?_⟩); gi_at_call 76; refine (ihc _).mono ?_; clear ihc; rintro e W4 (⟨rfl, hJ4, hk4⟩ | ⟨rfl, pp, hpp, hx4⟩))
          · rw [HV.out] at hk4
            go_roundw
            case rel => exact ⟨k + 1, by omega, by go_num, by rw [YT.preWL_take _ hck]; simpa [List.append_assoc] using hJ4, hkV.trans hk4⟩
            case measure => simp [intOf]; omega
          · go_ret
            refine .inr ⟨rfl, ((d : Int), (⟨xk, some ⟨b, off, none⟩, xl, xc⟩ : TNode)) :: YT.preWL (wrap64 (d + 1)) (kids.take k) ++ pp, ?_, by simpa [List.append_assoc] using hx4⟩
            obtain ⟨r, hr⟩ := hpp
            obtain ⟨r2, hr2⟩ := YT.preWL_prefix (wrap64 (d + 1)) kids (k + 1)
            rw [YT.preWL_take _ hck, ← hr] at hr2
            exact ⟨r ++ r2, by simp [YT.preW, ← hr2]⟩
        · have hks : k = xl := by omega
          have hkl : k = kids.length := by rw [← HL.out]; exact hks
          gi_wp2
          go_ret
          exact .inl ⟨rfl, by rw [hkl, List.take_length] at hJk; simpa [YT.preW] using hJk, hkk⟩
    · go_ret
      exact .inr ⟨rfl, [((d : Int), (⟨xk, xa, xl, xc⟩ : TNode))], by simp [YT.preW], hx2⟩

end Go.Proofs.YtofboalgbgipoaaGreatDoor
