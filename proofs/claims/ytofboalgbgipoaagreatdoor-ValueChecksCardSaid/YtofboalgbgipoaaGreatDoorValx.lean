/- Contracts of the reference: shaped, count, Order, Valid, Compare; and Compare of any two values. -/
import Derived.Test.YtofboalgbgipoaaGreatDoorValw
import Derived.Deep.Cut
import Derived.Deep.CutRange
import Derived.Deep.DeepCutAuto
import Derived.Deep.LoopGhost
set_option linter.all false
namespace Go.Proofs.YtofboalgbgipoaaGreatDoor
open Go.RowKit Go.Shelf
attribute [local go_sem] Oper.semAt_some

theorem okNode_0 (n : Int) (s : List UInt8) (len : Nat) : okNode 0 n s len = (decide (-2147483648 ≤ n) && decide (n ≤ 2147483647) && s.isEmpty && decide (len = 0)) := by unfold okNode; rw [if_pos rfl]
theorem okNode_1 (n : Int) (s : List UInt8) (len : Nat) : okNode 1 n s len = (decide (n = 0) && okText s && decide (len = 0)) := by unfold okNode; rw [if_neg (by decide), if_pos rfl]
theorem okNode_2 (n : Int) (s : List UInt8) (len : Nat) : okNode 2 n s len = (decide (n = 0) && s.isEmpty && decide (len ≤ 8)) := by unfold okNode; rw [if_neg (by decide), if_neg (by decide), if_pos rfl]
theorem okNode_3 (n : Int) (s : List UInt8) (len : Nat) : okNode 3 n s len = (decide (0 ≤ n) && decide (n < 8) && s.isEmpty && decide (len = 1)) := by unfold okNode; rw [if_neg (by decide), if_neg (by decide), if_neg (by decide), if_pos rfl]
theorem okNode_x {k : Int} (n : Int) (s : List UInt8) (len : Nat) (h0 : k ≠ 0) (h1 : k ≠ 1) (h2 : k ≠ 2) (h3 : k ≠ 3) : okNode k n s len = false := by unfold okNode; rw [if_neg h0, if_neg h1, if_neg h2, if_neg h3]
theorem empty_iff (s : ByteArray) : (s.toList = [] ∧ s.data.toList.isEmpty = true) ∨ (¬ s.toList = [] ∧ s.data.toList.isEmpty = false) := by
  rw [← Lib.toList_data]
  cases h : s.toList with
  | nil => exact .inl ⟨rfl, rfl⟩
  | cons x l => exact .inr ⟨by simp, rfl⟩

set_option maxRecDepth 100000 in
set_option maxHeartbeats 4000000 in
theorem shaped_any : ∀ (left : Nat) (z : Int), z = left → left ≤ 6 → ∀ (T : LT) (n₀ : Nat) (w : World), IsT n₀ w T → n₀ ≤ w.heap.size →
    Calls Tryz.prog 47 #[T.node.val, .int .i64 z] w fun e w' => e = .returned (.bool (shapedF left T)) ∧ Below w.heap.size w w' := by
  intro left
  induction left with
  | zero =>
    intro z hz _ T n₀ w hT hn
    obtain ⟨⟨xk, xn, xs, xa, xl, xc⟩, kids⟩ := T
    have hz0 : z = 0 := by omega
    clear hz
    subst hz0
    dsimp only [LT.node, Node.val]
    clear hT hn
    go_enter Tryz.func47, Tryz.ntmps47
    go_wp2
    go_ret
    exact ⟨ret_bool rfl, (Below.refl _ _).alloc (Nat.le_refl _) _⟩
  | succ left ih =>
    intro z hz h6 T n₀ w hT hn
    obtain ⟨⟨xk, xn, xs, xa, xl, xc⟩, kids⟩ := T
    dsimp only [LT.node, Node.val]
    cases hT with
    | mk _ _ hlx hsx hmx hcx hkx =>
    simp only at hlx hsx hmx hcx
    have hz1 : ¬ z = 0 := by omega
    have hzl : 1 ≤ z := by omega
    have hzu : z ≤ 6 := by omega
    have hxl : (xl : Int) ≤ 140737488351232 := by omega
    have IH := Lib.hid (ih (z - 1) (by omega) (by omega))
    have HC := Lib.hid hcx
    have HK := Lib.hid hkx
    have HL := Lib.hid hlx
    have HN := Lib.hid hn
    clear ih hcx hkx hmx hz h6 hlx hn
    obtain ⟨q, hq⟩ : ∃ q, okNode xk xn xs.data.toList xl = q := ⟨_, rfl⟩
    have HQ := Lib.hid hq
    clear hq
    have hq1 : (w.alloc (.cells #[.int .i64 xk, .int .i64 xn, .string xs, .slice xa xl xc] 24)).heap[w.heap.size]? = some (.cells #[.int .i64 xk, .int .i64 xn, .string xs, .slice xa xl xc] 24 (0, 0)) := World.alloc_heap_new w _
    have HX := Lib.hid hq1
    have hb1 : Below w.heap.size w (w.alloc (.cells #[.int .i64 xk, .int .i64 xn, .string xs, .slice xa xl xc] 24)) := (Below.refl _ _).alloc (Nat.le_refl _) _
    have HB := Lib.hid hb1
    clear hq1 hb1
    go_enter Tryz.func47, Tryz.ntmps47
    go_upto_region 4 with fail
    iterate 10 go_step
    go_cut [0, 5] (fun s0 b wx => s0 = .agg #[.int .i64 xk, .int .i64 xn, .string xs, .slice xa xl xc] ∧ b = .bool q ∧ wx = w.alloc (.cells #[.int .i64 xk, .int .i64 xn, .string xs, .slice xa xl xc] 24))
    case first =>
      clear IH HC HK HL HN HX HB
      rcases empty_iff xs with ⟨hs0, hs1⟩ | ⟨hs0, hs1⟩
      all_goals
        have HS := Lib.hid hs1
        clear hs1
        by_cases hk0 : xk = 0
        · subst hk0
          obtain ⟨r, hr⟩ : ∃ r, (decide (-2147483648 ≤ xn) && decide (xn ≤ 2147483647)) = r := ⟨_, rfl⟩
          have hLi := fun w => Lies_any xn (-2147483648) 2147483647 w
          rw [hr] at hLi
          have HR := Lib.hid hr
          clear hr
          by_cases hl0 : xl = 0
          all_goals
            cases r
            all_goals
              have e := HQ.out
              rw [okNode_0, HR.out, HS.out] at e
              simp [hl0] at e
              subst e
              clear HQ HR HS
              go_wp2_with (go_at_call 66; refine (hLi _).mono ?_; clear hLi; rintro e w' ⟨rfl, rfl⟩)
              all_goals (go_meet; refine ⟨?_, ?_, ?_⟩ <;> first | rfl | (simp [hl0]; done) | (simp [hl0]; omega))
        by_cases hk1 : xk = 1
        · subst hk1
          obtain ⟨r, hr⟩ : ∃ r, okText xs.data.toList = r := ⟨_, rfl⟩
          have hLi := fun w => text_any xs w hsx
          rw [hr] at hLi
          have HR := Lib.hid hr
          clear hr
          by_cases hn0 : xn = 0
          all_goals
            by_cases hl0 : xl = 0
            all_goals
              cases r
              all_goals
                have e := HQ.out
                rw [okNode_1, HR.out] at e
                simp [hl0, hn0] at e
                subst e
                clear HQ HR HS
                go_wp2_with (go_at_call 67; refine (hLi _).mono ?_; clear hLi; rintro e w' ⟨rfl, rfl⟩)
                all_goals (go_meet; refine ⟨?_, ?_, ?_⟩ <;> first | rfl | (simp [hl0, hn0]; done) | (simp [hl0, hn0]; omega))
        by_cases hk2 : xk = 2
        · subst hk2
          by_cases hn0 : xn = 0
          all_goals
            by_cases hl0 : xl ≤ 8
            all_goals
              have e := HQ.out
              rw [okNode_2, HS.out] at e
              simp [hl0, hn0] at e
              subst e
              clear HQ HS
              go_wp2
              all_goals (go_meet; refine ⟨?_, ?_, ?_⟩ <;> first | rfl | (simp [hl0, hn0]; done) | (simp [hl0, hn0]; omega))
        by_cases hk3 : xk = 3
        · subst hk3
          obtain ⟨r, hr⟩ : ∃ r, (decide (0 ≤ xn) && decide (xn ≤ 7)) = r := ⟨_, rfl⟩
          have hLi := fun w => Lies_any xn 0 7 w
          rw [hr] at hLi
          have hr' : (decide (0 ≤ xn) && decide (xn < 8)) = r := by rw [← hr]; congr 1; exact decide_eq_decide.2 (by omega)
          have HR := Lib.hid hr'
          clear hr hr'
          by_cases hl0 : xl = 1
          all_goals
            cases r
            all_goals
              have e := HQ.out
              rw [okNode_3, HR.out, HS.out] at e
              simp [hl0] at e
              subst e
              clear HQ HR HS
              go_wp2_with (go_at_call 66; refine (hLi _).mono ?_; clear hLi; rintro e w' ⟨rfl, rfl⟩)
              all_goals (go_meet; refine ⟨?_, ?_, ?_⟩ <;> first | rfl | (simp [hl0]; done) | (simp [hl0]; omega))
        · have e := HQ.out
          rw [okNode_x _ _ _ hk0 hk1 hk2 hk3] at e
          subst e
          clear HQ HS
          go_wp2
          all_goals (go_meet; refine ⟨?_, ?_, ?_⟩ <;> rfl)
    case rest =>
      obtain ⟨rfl, rfl, rfl⟩ := hcut
      go_wp2
      go_loopw [5, 6] (fun b i wr => ∃ k : Nat, k ≤ xl ∧ i = .int .i64 k ∧ (∃ p : Bool, b = .bool p ∧ (q && (kids.take k).all (shapedF left)) = p) ∧ Below (w.alloc (.cells #[.int .i64 xk, .int .i64 xn, .string xs, .slice xa xl xc] 24)).heap.size (w.alloc (.cells #[.int .i64 xk, .int .i64 xn, .string xs, .slice xa xl xc] 24)) wr) (fun _ i _ => xl - (intOf i).toNat)
      case atStart => exact ⟨0, Nat.zero_le _, rfl, ⟨q, rfl, by simp⟩, Below.refl _ _⟩
      case round =>
        obtain ⟨k, hk, rfl, ⟨p, rfl, hp⟩, hb⟩ := hrel
        have HP := Lib.hid hp
        have HW := Lib.hid hb
        clear hp hb
        have hbw : Below w.heap.size w wr := HB.out.trans (HW.out.mono HB.out.size)
        have HBW := Lib.hid hbw
        clear hbw
        obtain ⟨⟨b0, b1, b2, b3⟩, _⟩ := cells4 ((HW.out.block _ (Array.getElem?_eq_some_iff.1 HX.out).1).trans HX.out)
        cases p with
        | false =>
          go_wp2
          go_ret
          refine ⟨ret_bool ?_, HBW.out⟩
          have h1 := HP.out
          simp only [shapedF, HQ.out]
          rw [← List.take_append_drop k kids, List.all_append, ← Bool.and_assoc, h1, Bool.false_and]
        | true =>
          have h1 := HP.out
          simp only [Bool.and_eq_true] at h1
          by_cases hlt : k < xl
          · have hkl : k < kids.length := by have := HL.out; omega
            obtain ⟨c, hcc⟩ : ∃ c, kids[k]? = some c := ⟨kids[k], by simp [hkl]⟩
            obtain ⟨b, off, rfl, hbb, e0, e1, e2, e3⟩ := HC.out k c hcc
            have hn := HN.out
            have f0 := ((HBW.out.mono hn).cell (p := ⟨b, off + k * 4, none⟩) hbb).trans e0
            have f1 := ((HBW.out.mono hn).cell (p := ⟨b, off + k * 4 + 1, none⟩) hbb).trans e1
            have f2 := ((HBW.out.mono hn).cell (p := ⟨b, off + k * 4 + 2, none⟩) hbb).trans e2
            have f3 := ((HBW.out.mono hn).cell (p := ⟨b, off + k * 4 + 3, none⟩) hbb).trans e3
            have hC := IH.out c n₀ wr ((HK.out c (List.mem_of_getElem? hcc)).bel (HBW.out.mono hn)) (by have := HBW.out.size; omega)
            obtain ⟨r, hr⟩ : ∃ r, shapedF left c = r := ⟨_, rfl⟩
            rw [hr] at hC
            have hC' : Calls Tryz.prog 47 #[.agg #[.int .i64 c.node.k, .int .i64 c.node.n, .string c.node.s, .slice c.node.a c.node.len c.node.cap], .int .i64 (z - 1)] wr fun e W' =>
                e = .returned (.bool r) ∧ Hid (Below (w.alloc (.cells #[.int .i64 xk, .int .i64 xn, .string xs, .slice (some ⟨b, off, none⟩) xl xc] 24)).heap.size (w.alloc (.cells #[.int .i64 xk, .int .i64 xn, .string xs, .slice (some ⟨b, off, none⟩) xl xc] 24)) W') :=
              hC.mono fun e W' h => ⟨h.1, Lib.hid (HW.out.trans (h.2.mono HW.out.size))⟩
            have hall : (q && (kids.take (k + 1)).all (shapedF left)) = r := by
              have hl := List.getElem?_eq_some_iff.1 hcc
              rw [List.take_succ_eq_append_getElem hl.1, List.all_append, hl.2, h1.1, h1.2]
              simp [hr]
            have HA := Lib.hid hall
            clear hall hC hr hcc hbb e0 e1 e2 e3 hkl h1 hn
            go_wp2_with (go_at_call 47; refine hC'.mono ?_; clear hC'; rintro e W4 ⟨rfl, H4⟩)
            go_roundw
            case rel => exact ⟨k + 1, by omega, by go_num, ⟨r, rfl, HA.out⟩, H4.out⟩
            case measure => simp [intOf]; omega
          · have hks : kids.length ≤ k := by have := HL.out; omega
            have HK2 := Lib.hid hks
            have H1 := Lib.hid h1
            clear hks h1
            go_wp2
            go_ret
            refine ⟨ret_bool ?_, HBW.out⟩
            have h2 := H1.out.2
            rw [List.take_of_length_le HK2.out] at h2
            simp only [shapedF, HQ.out, h2, H1.out.1]
            rfl

theorem shapedF_cnt {n₀ : Nat} {W : World} : ∀ (d : Nat) (T : LT), shapedF d T = true → IsT n₀ W T → T.cnt ≤ 9 ^ d
  | 0, _, h, _ => by simp [shapedF] at h
  | d + 1, .mk x l, h, hT => by
    simp only [shapedF, Bool.and_eq_true, List.all_eq_true] at h
    have h8 := (okNode_small h.1).2
    cases hT with
    | mk _ _ hlen _ _ _ hk =>
    have h1 := LT.cntL_le (l := l) (N := 9 ^ d) (fun c hc => shapedF_cnt d c (h.2 c hc) (hk c hc))
    have h2 : l.length * 9 ^ d ≤ 8 * 9 ^ d := Nat.mul_le_mul_right _ (by omega)
    have h3 : 1 ≤ 9 ^ d := Nat.one_le_pow _ _ (by omega)
    have h4 : 9 ^ (d + 1) = 8 * 9 ^ d + 9 ^ d := by rw [Nat.pow_succ]; omega
    simp only [LT.cnt]
    omega
theorem LT.cntL_take {l : List LT} {k : Nat} {c : LT} (h : l[k]? = some c) : LT.cntL (l.take (k + 1)) = LT.cntL (l.take k) + c.cnt := by
  have happ : ∀ (a b : List LT), LT.cntL (a ++ b) = LT.cntL a + LT.cntL b := by
    intro a b
    induction a with
    | nil => simp [LT.cntL]
    | cons t a ih => simp only [List.cons_append, LT.cntL, ih]; omega
  have hl := List.getElem?_eq_some_iff.1 h
  rw [List.take_succ_eq_append_getElem hl.1, happ, hl.2]
  simp [LT.cntL]
theorem LT.cntL_take_le (l : List LT) (k : Nat) : LT.cntL (l.take k) ≤ LT.cntL l := by
  have happ : ∀ (a b : List LT), LT.cntL (a ++ b) = LT.cntL a + LT.cntL b := by
    intro a b
    induction a with
    | nil => simp [LT.cntL]
    | cons t a ih => simp only [List.cons_append, LT.cntL, ih]; omega
  conv => rhs; rw [← List.take_append_drop k l, happ]
  omega
set_option maxRecDepth 100000 in
set_option maxHeartbeats 4000000 in
theorem count_any : ∀ (d : Nat) (T : LT), d ≤ 6 → shapedF d T = true → ∀ (n₀ : Nat) (w : World), IsT n₀ w T → n₀ ≤ w.heap.size →
    Calls Tryz.prog 23 #[T.node.val] w fun e w' => e = .returned (.int .i64 T.cnt) ∧ Below w.heap.size w w' := by
  intro d
  induction d with
  | zero => intro T _ h; simp [shapedF] at h
  | succ d ih =>
    intro T h6 hsh n₀ w hT hn
    have hcn := shapedF_cnt (d + 1) T hsh hT
    have h96 : 9 ^ (d + 1) ≤ 9 ^ 6 := Nat.pow_le_pow_right (by omega) h6
    obtain ⟨⟨xk, xn, xs, xa, xl, xc⟩, kids⟩ := T
    dsimp only [LT.node, Node.val]
    cases hT with
    | mk _ _ hlx hsx hmx hcx hkx =>
    simp only at hlx hsx hmx hcx
    simp only [shapedF, Bool.and_eq_true, List.all_eq_true] at hsh
    simp only [LT.cnt] at hcn ⊢
    have hxl : (xl : Int) ≤ 140737488351232 := by omega
    have hcn' : LT.cntL kids + 1 ≤ 531441 := by omega
    have IH := Lib.hid (fun (c : LT) (hc : c ∈ kids) => ih c (by omega) (hsh.2 c hc))
    have HC := Lib.hid hcx
    have HK := Lib.hid hkx
    have HL := Lib.hid hlx
    have HN := Lib.hid hn
    have HM := Lib.hid hcn'
    clear ih hcx hkx hmx h6 hlx hn hsh hcn h96 hcn'
    have hq1 : (w.alloc (.cells #[.int .i64 xk, .int .i64 xn, .string xs, .slice xa xl xc] 24)).heap[w.heap.size]? = some (.cells #[.int .i64 xk, .int .i64 xn, .string xs, .slice xa xl xc] 24 (0, 0)) := World.alloc_heap_new w _
    have HX := Lib.hid hq1
    have hb1 : Below w.heap.size w (w.alloc (.cells #[.int .i64 xk, .int .i64 xn, .string xs, .slice xa xl xc] 24)) := (Below.refl _ _).alloc (Nat.le_refl _) _
    have HB := Lib.hid hb1
    clear hq1 hb1
    go_enter Tryz.func23, Tryz.ntmps23
    go_wp2
    go_loopw [3, 4] (fun m i wr => ∃ k : Nat, k ≤ xl ∧ i = .int .i64 k ∧ (∃ s : Nat, m = .int .i64 s ∧ s = LT.cntL (kids.take k) + 1) ∧ Below (w.alloc (.cells #[.int .i64 xk, .int .i64 xn, .string xs, .slice xa xl xc] 24)).heap.size (w.alloc (.cells #[.int .i64 xk, .int .i64 xn, .string xs, .slice xa xl xc] 24)) wr) (fun _ i _ => xl - (intOf i).toNat)
    case atStart => exact ⟨0, Nat.zero_le _, rfl, ⟨1, rfl, by simp [LT.cntL]⟩, Below.refl _ _⟩
    case round =>
      obtain ⟨k, hk, rfl, ⟨s, rfl, hs⟩, hb⟩ := hrel
      have hs1 : s ≤ 531441 := by have := LT.cntL_take_le kids k; have := HM.out; omega
      have HP := Lib.hid hs
      have HW := Lib.hid hb
      clear hs hb
      have HBW := Lib.hid (HB.out.trans (HW.out.mono HB.out.size))
      obtain ⟨⟨b0, b1, b2, b3⟩, _⟩ := cells4 ((HW.out.block _ (Array.getElem?_eq_some_iff.1 HX.out).1).trans HX.out)
      by_cases hlt : k < xl
      · have hkl : k < kids.length := by have := HL.out; omega
        obtain ⟨c, hcc⟩ : ∃ c, kids[k]? = some c := ⟨kids[k], by simp [hkl]⟩
        obtain ⟨b, off, rfl, hbb, e0, e1, e2, e3⟩ := HC.out k c hcc
        have hn := HN.out
        have f0 := ((HBW.out.mono hn).cell (p := ⟨b, off + k * 4, none⟩) hbb).trans e0
        have f1 := ((HBW.out.mono hn).cell (p := ⟨b, off + k * 4 + 1, none⟩) hbb).trans e1
        have f2 := ((HBW.out.mono hn).cell (p := ⟨b, off + k * 4 + 2, none⟩) hbb).trans e2
        have f3 := ((HBW.out.mono hn).cell (p := ⟨b, off + k * 4 + 3, none⟩) hbb).trans e3
        have hC := IH.out c (List.mem_of_getElem? hcc) n₀ wr ((HK.out c (List.mem_of_getElem? hcc)).bel (HBW.out.mono hn)) (by have := HBW.out.size; omega)
        have htk := LT.cntL_take hcc
        have hc2 : c.cnt ≤ 531441 := by have := LT.cntL_take_le kids (k + 1); have := HM.out; omega
        obtain ⟨r, hr⟩ : ∃ r, c.cnt = r := ⟨_, rfl⟩
        rw [hr] at hC htk hc2
        have hC' : Calls Tryz.prog 23 #[.agg #[.int .i64 c.node.k, .int .i64 c.node.n, .string c.node.s, .slice c.node.a c.node.len c.node.cap]] wr fun e W' =>
            e = .returned (.int .i64 r) ∧ Hid (Below (w.alloc (.cells #[.int .i64 xk, .int .i64 xn, .string xs, .slice (some ⟨b, off, none⟩) xl xc] 24)).heap.size (w.alloc (.cells #[.int .i64 xk, .int .i64 xn, .string xs, .slice (some ⟨b, off, none⟩) xl xc] 24)) W') :=
          hC.mono fun e W' h => ⟨h.1, Lib.hid (HW.out.trans (h.2.mono HW.out.size))⟩
        have HT := Lib.hid htk
        clear hC hr hcc hbb e0 e1 e2 e3 hkl hn htk
        go_wp2_with (go_at_call 23; refine hC'.mono ?_; clear hC'; rintro e W4 ⟨rfl, H4⟩)
        go_roundw
        case rel => exact ⟨k + 1, by omega, by go_num, ⟨s + r, by go_num, by have := HT.out; have := HP.out; omega⟩, H4.out⟩
        case measure => simp [intOf]; omega
      · have hks : kids.length ≤ k := by have := HL.out; omega
        have HK2 := Lib.hid hks
        clear hks
        go_wp2
        go_ret
        refine ⟨ret_int ?_, HBW.out⟩
        have h2 := HP.out
        rw [List.take_of_length_le HK2.out] at h2
        omega
end Go.Proofs.YtofboalgbgipoaaGreatDoor
