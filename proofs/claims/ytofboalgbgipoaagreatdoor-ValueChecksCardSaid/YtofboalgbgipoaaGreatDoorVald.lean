/- The nodes of a value, as an iterator. -/
import Derived.Test.YtofboalgbgipoaaGreatDoorValc
set_option linter.all false
namespace Go.Proofs.YtofboalgbgipoaaGreatDoor
open Go.RowKit Go.Shelf
attribute [local go_sem] Oper.semAt_some

set_option maxRecDepth 100000 in
set_option maxHeartbeats 1000000 in
theorem nodes1_in (F : Fence) (hd : F.depth = none) (n : Nat) (h1 : F.fn 64) (hw : F.fn 65) (hp : F.fn 20) (hro : F.round = none) (l bp br n₀ q : Nat) (T : LT) (G : Int × Node → Prop) (hG : ∀ y ∈ T.preW 1, G y) (J Jx : List (Int × Node) → World → Prop)
    (hqp : bp ≠ q) (hJ : ∀ s W W', J s W → Below W.heap.size W W' → J s W')
    (hY : ∀ pre (x : Int × Node) W, G x → J pre W → pre.length < (T.preW 1).length → YieldAt F (n - 1) Tryz.prog l #[.int .i64 x.1, x.2.val] W fun e W' =>
      (e = .returned (.bool true) ∧ J (pre ++ [x]) W' ∧ Kc n₀ q W W') ∨ (e = .returned (.bool false) ∧ Jx (pre ++ [x]) W'))
    (W : World) (hn0 : n₀ ≤ W.heap.size) (hq0 : q < W.heap.size) (cp : W.cell? ⟨bp, 0, none⟩ = some (.func (.func 20) #[] #[]))
    (r0 : W.cell? ⟨br, 0, none⟩ = some (.int .i64 T.node.k)) (r1 : W.cell? ⟨br, 1, none⟩ = some (.int .i64 T.node.n)) (r2 : W.cell? ⟨br, 2, none⟩ = some (.string T.node.s)) (r3 : W.cell? ⟨br, 3, none⟩ = some (.slice T.node.a T.node.len T.node.cap))
    (hT : IsT n₀ W T) (h0 : J [] W) :
    CallsIn F n Tryz.prog 64 #[.func (.yield l) #[] #[], .pointer (some ⟨bp, 0, none⟩), .pointer (some ⟨br, 0, none⟩)] W fun e W' => (∃ v, e = .returned v) ∧
      ((∃ ys, ys = T.preW 1 ∧ J ys W') ∨ (∃ pre, pre <+: T.preW 1 ∧ Jx pre W')) := by
  have hdd : ∀ k : Nat, (F.depth.isSome = true → 1 ≤ k) := fun k h => by rw [hd] at h; cases h
  have hbp := cell_lt cp
  have hbr := cell_lt r0
  obtain ⟨V, hV⟩ : ∃ V, (W.alloc (.cells #[.func (.yield l) #[] #[]] 91)).alloc (.cells #[.func (.func 65) #[] #[.pointer (some ⟨W.heap.size, 0, none⟩), .pointer (some ⟨bp, 0, none⟩), .pointer (some ⟨W.heap.size + 1, 0, none⟩)]] 70) = V := ⟨_, rfl⟩
  have hbV : Below W.heap.size W V := by rw [← hV]; exact ((Below.refl _ _).alloc (Nat.le_refl _) _).alloc (by simp) _
  have hVs := hbV.size
  have hwk := fun m => wlk_in F hd hw hp hro l n₀ q (T.preW 1).length W.heap.size bp (W.heap.size + 1) G J Jx (by omega) hqp (by omega) hJ (fun m pre x W hg hj hl => YieldAt.anyDepth hd m (hY pre x W hg hj hl)) T.ht T (Nat.le_refl _) m [] 1 V (hT.bel (hbV.mono hn0)) (hJ _ _ _ h0 hbV)
    (by rw [← hV]; simp [go_sem]) ((hbV.cell (p := ⟨bp, 0, none⟩) hbp).trans cp) (by rw [← hV]; simp [go_sem]) (by simp) (by omega) (by omega) hG
  refine callsIn_of_wp Tryz.func64 rfl h1 ?_ hro
  simp only [Tryz.ntmps64, List.size_toArray, List.length_cons, List.length_nil, Nat.reduceAdd, Nat.reduceSub, Array.replicate_succ, Array.replicate_zero, List.push_toArray, List.append_toArray, List.nil_append, List.cons_append]
  clear hY hG
  have hst : ∀ fv : Value, fv.oneCell' = true → Sem.run Tryz.prog (store ⟨W.heap.size + 1, 0, none⟩ fv) ((W.alloc (.cells #[.func (.yield l) #[] #[]] 91)).alloc (.cells #[.nilFunc] 70)) =
      .ok () ((W.alloc (.cells #[.func (.yield l) #[] #[]] 91)).alloc (.cells #[fv] 70)) := by
    intro fv hfv
    have hh : ((W.alloc (.cells #[.func (.yield l) #[] #[]] 91)).alloc (.cells #[.nilFunc] 70)).heap[W.heap.size + 1]? = some (.cells #[.nilFunc] 70 (0, 0)) := by
      have := World.alloc_heap_new (W.alloc (.cells #[.func (.yield l) #[] #[]] 91)) (.cells #[.nilFunc] 70)
      rwa [World.size_alloc] at this
    have hc1 : ((W.alloc (.cells #[.func (.yield l) #[] #[]] 91)).alloc (.cells #[.nilFunc] 70)).cell? ⟨W.heap.size + 1, 0, none⟩ = some .nilFunc := by unfold World.cell?; simp only [hh]; rfl
    have hf1 : ((W.alloc (.cells #[.func (.yield l) #[] #[]] 91)).alloc (.cells #[.nilFunc] 70)).frozen? ⟨W.heap.size + 1, 0, none⟩ = false := by unfold World.frozen?; simp only [hh]; rfl
    rw [run_store _ _ _ _ _ hfv, hc1, hf1]
    simp only [Bool.false_eq_true, if_false]
    have e : (⟨W.heap.size + 1, 0, none⟩ : Addr) = ⟨(W.alloc (.cells #[.func (.yield l) #[] #[]] 91)).heap.size, 0, none⟩ := by simp
    rw [e, World.setCell_alloc_new]
    simp
  have hst1 := hst (.func (.func 65) #[] #[.pointer (some ⟨W.heap.size, 0, none⟩), .pointer (some ⟨bp, 0, none⟩), .pointer (some ⟨W.heap.size + 1, 0, none⟩)]) rfl
  clear hst
  have HV := Lib.hid hV
  rw [← hV] at hwk
  have r0' := (hbV.cell (p := ⟨br, 0, none⟩) hbr).trans r0
  have r1' := (hbV.cell (p := ⟨br, 1, none⟩) hbr).trans r1
  have r2' := (hbV.cell (p := ⟨br, 2, none⟩) hbr).trans r2
  have r3' := (hbV.cell (p := ⟨br, 3, none⟩) hbr).trans r3
  rw [← hV] at r0' r1' r2' r3'
  clear hV hVs
  gi_wp2_with ((try refine ⟨hdd _, ?_⟩); gi_at_call 65; refine (hwk _).mono ?_; clear hwk; rintro e W1 (⟨rfl, hJ1, _⟩ | ⟨rfl, q', hq', hx⟩))
  · go_end0
    exact ⟨⟨_, rfl⟩, .inl ⟨_, rfl, by simpa using hJ1⟩⟩
  · go_end0
    exact ⟨⟨_, rfl⟩, .inr ⟨q', hq', by simpa using hx⟩⟩
end Go.Proofs.YtofboalgbgipoaaGreatDoor
