/- How deep a value is. -/
import Derived.Test.YtolnkacccdkaoaaGreatDoorValm
set_option linter.all false
namespace Go.Proofs.YtolnkacccdkaoaaGreatDoor
open Go.RowKit Go.Shelf
attribute [local go_sem] Oper.semAt_some

theorem LT.htL_take {l : List LT} {i : Nat} {c : LT} (h : l[i]? = some c) : LT.htL (l.take (i + 1)) = max (LT.htL (l.take i)) c.ht := by
  induction l generalizing i with
  | nil => simp at h
  | cons x l ih =>
    cases i with
    | zero => simp at h; subst h; simp [LT.htL]
    | succ i =>
      have := ih (i := i) (by simpa using h)
      simp only [List.take_succ_cons, LT.htL, this]
      omega
theorem LT.htL_take_le (l : List LT) (i : Nat) : LT.htL (l.take i) ≤ LT.htL l := LT.htL_le (fun c hc => LT.ht_mem (List.mem_of_mem_take hc))
set_option maxRecDepth 100000 in
set_option maxHeartbeats 1000000 in
theorem depth_any : ∀ (sz : Nat) (V : LT), V.ht ≤ sz → sz ≤ 1000000 → ∀ (n₀ : Nat) (w : World), IsT n₀ w V → n₀ ≤ w.heap.size →
    Calls Tryz.prog 43 #[V.node.val] w fun e w' => e = .returned (.int .i64 V.ht) ∧ Below w.heap.size w w' := by
  intro sz
  induction sz with
  | zero => intro V hV; cases V; simp [LT.ht] at hV
  | succ sz ih =>
    intro V hV hsz n₀ w hT hn
    obtain ⟨x, kids, hlen, hs, hm, hc, hk⟩ := hT
    obtain ⟨xk, xn, xs, xa, xl, xc⟩ := x
    simp only [LT.ht] at hV
    simp only at hlen hm hc
    obtain ⟨W1, hW1⟩ : ∃ W1, w.alloc (.cells #[.int .i64 xk, .int .i64 xn, .string xs, .slice xa xl xc] 24) = W1 := ⟨_, rfl⟩
    have hb1 : Below w.heap.size w W1 := by rw [← hW1]; exact (Below.refl _ _).alloc (Nat.le_refl _) _
    have box1 : W1.heap[w.heap.size]? = some (.cells #[.int .i64 xk, .int .i64 xn, .string xs, .slice xa xl xc] 24 (0, 0)) := by rw [← hW1]; exact World.alloc_heap_new w _
    have HL := Lib.hid hlen
    have HC := Lib.hid hc
    have HK := Lib.hid hk
    have HI := Lib.hid ih
    have HB := Lib.hid hb1
    have HX := Lib.hid box1
    have HV := Lib.hid hV
    have HS := Lib.hid hsz
    have HM := Lib.hid hm
    have hxl : (xl : Int) ≤ 140737488351232 := by omega
    have HW := Lib.hid hW1
    clear hlen hc hk ih hb1 box1 hV hsz hs hm hW1
    have hn' := hn
    dsimp only [LT.node, Node.val]
    go_enter Tryz.func43, Tryz.ntmps43
    go_wp2
    rw [HW.out]
    go_loopw [3, 4] (fun p i wr => ∃ k : Nat, k ≤ xl ∧ i = .int .i64 k ∧ p = .int .i64 (LT.htL (kids.take k)) ∧ Below W1.heap.size W1 wr) (fun _ i _ => xl - (intOf i).toNat)
    case atStart => exact ⟨0, Nat.zero_le _, rfl, rfl, Below.refl _ _⟩
    case round =>
      obtain ⟨k, hk', rfl, rfl, hbr⟩ := hrel
      have hs1 := HB.out.size
      have hlw := (Array.getElem?_eq_some_iff.1 HX.out).1
      have boxr := (hbr.block _ hlw).trans HX.out
      have b3 : wr.cell? ⟨w.heap.size, 3, none⟩ = some (.slice xa xl xc) := by simp [World.cell?, boxr]
      by_cases hlt : k < xl
      · have hkl : k < kids.length := by have := HL.out; omega
        obtain ⟨c, hcc⟩ : ∃ c, kids[k]? = some c := ⟨kids[k], by simp [hkl]⟩
        have hcm := List.mem_of_getElem? hcc
        obtain ⟨b, off, rfl, hb, e0, e1, e2, e3⟩ := HC.out k c hcc
        have hbw : Below n₀ w wr := (HB.out.mono hn).trans (hbr.mono (by omega))
        have f0 := (hbw.cell (p := ⟨b, off + k * 4, none⟩) hb).trans e0
        have f1 := (hbw.cell (p := ⟨b, off + k * 4 + 1, none⟩) hb).trans e1
        have f2 := (hbw.cell (p := ⟨b, off + k * 4 + 2, none⟩) hb).trans e2
        have f3 := (hbw.cell (p := ⟨b, off + k * 4 + 3, none⟩) hb).trans e3
        have hht := LT.ht_mem hcm
        have hI := HI.out c (by have := HV.out; omega) (by have := HS.out; omega) n₀ wr ((HK.out c hcm).bel hbw) (by have := hbr.size; omega)
        have htk := LT.htL_take hcc
        obtain ⟨m, hm⟩ : ∃ m, LT.htL (kids.take k) = m := ⟨_, rfl⟩
        obtain ⟨h, hh⟩ : ∃ h, c.ht = h := ⟨_, rfl⟩
        rw [hm, hh] at htk
        rw [hh] at hI
        rw [hm]
        obtain ⟨⟨ck, cn, cs, ca, cl, cc⟩, ckids⟩ := c
        simp only [LT.node] at f0 f1 f2 f3
        dsimp only [LT.node, Node.val] at hI
        have HT := Lib.hid htk
        have HR := Lib.hid hbr
        clear htk hbr hm hh hht hcm hcc hbw boxr e0 e1 e2 e3 hkl hb hlw hs1 hn hn' hk'
        rcases Nat.lt_trichotomy m h with hmh | hmh | hmh
        all_goals
          try subst hmh
          go_wp2_with (go_at_call 43; refine hI.mono ?_; clear hI; rintro e W4 ⟨rfl, hb4⟩)
          have ht := HT.out
          have hb1 := HR.out
          refine ⟨⟨k + 1, by omega, by go_num, ?_, hb1.trans (hb4.mono hb1.size)⟩, by simp [intOf]; omega⟩
          rw [ht]
          exact congrArg (fun z : Nat => Value.int .i64 z) (by omega)
      · have hkk : k = kids.length := by have := HL.out; omega
        have HR := Lib.hid hbr
        have ht := HV.out
        have hs := HS.out
        obtain ⟨m, hm⟩ : ∃ m, LT.htL (kids.take k) = m := ⟨_, rfl⟩
        have hmm : (m : Int) ≤ 1000000 := by have := LT.htL_take_le kids k; omega
        rw [hm]
        rw [hkk, List.take_length] at hm
        have HM' := Lib.hid hm
        clear hbr boxr hm ht hs hkk
        go_wp2
        go_ret
        have hm' := HM'.out
        exact ⟨by simp only [LT.ht, hm']; rfl, HB.out.trans (HR.out.mono HB.out.size)⟩
end Go.Proofs.YtolnkacccdkaoaaGreatDoor
