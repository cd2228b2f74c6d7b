/- Which values are valid, as the reference of this layer says it. -/
import Derived.Test.YtlbnfokedkpccaaGreatCalh
import Derived.Deep.QuietTactic
import Derived.BigQuiet
set_option linter.all false
namespace Go.Proofs.YtlbnfokedkpccaaGreat
open Go.RowKit Go.Shelf
attribute [local go_sem] Oper.semAt_some
theorem take_all_snoc (s : ByteArray) (k : Nat) (h : k < s.size) : (s.data.toList.take (k + 1)).all okCh = ((s.data.toList.take k).all okCh && okCh s[k]) := by
  rw [take_snocB s k h, List.all_append]; simp
theorem take_all_false {s : ByteArray} {k : Nat} (h : (s.data.toList.take k).all okCh = false) : okText s.data.toList = false := by
  unfold okText
  have : s.data.toList.all okCh = false := by
    rw [← List.take_append_drop k s.data.toList, List.all_append, h]; rfl
  rw [this]; simp
theorem okNode_0 (n : Int) (s : List UInt8) (len : Nat) : okNode 0 n s len = (decide (-2147483648 ≤ n) && decide (n ≤ 2147483647) && s.isEmpty && decide (len = 0)) := by unfold okNode; rw [if_pos rfl]
theorem okNode_1 (n : Int) (s : List UInt8) (len : Nat) : okNode 1 n s len = (decide (n = 0) && okText s && decide (len = 0)) := by unfold okNode; rw [if_neg (by decide), if_pos rfl]
theorem okNode_2 (n : Int) (s : List UInt8) (len : Nat) : okNode 2 n s len = (decide (n = 0) && s.isEmpty && decide (len ≤ 8)) := by unfold okNode; rw [if_neg (by decide), if_neg (by decide), if_pos rfl]
theorem okNode_3 (n : Int) (s : List UInt8) (len : Nat) : okNode 3 n s len = (decide (0 ≤ n) && decide (n < 8) && s.isEmpty && decide (len = 1)) := by unfold okNode; rw [if_neg (by decide), if_neg (by decide), if_neg (by decide), if_pos rfl]
theorem okNode_x {k : Int} (n : Int) (s : List UInt8) (len : Nat) (h0 : k ≠ 0) (h1 : k ≠ 1) (h2 : k ≠ 2) (h3 : k ≠ 3) : okNode k n s len = false := by unfold okNode; rw [if_neg h0, if_neg h1, if_neg h2, if_neg h3]
theorem empty_iff (s : ByteArray) : (s.toList = [] ∧ s.data.toList.isEmpty = true) ∨ (¬ s.toList = [] ∧ s.data.toList.isEmpty = false) := by
  rw [← Lib.toList_data]
  cases h : s.toList with
  | nil => exact .inl ⟨rfl, rfl⟩
  | cons x l => exact .inr ⟨by simp, rfl⟩
theorem LT.cntL_take {l : List LT} {k : Nat} {c : LT} (h : l[k]? = some c) : LT.cntL (l.take (k + 1)) = LT.cntL (l.take k) + c.cnt := by
  have happ : ∀ (a b : List LT), LT.cntL (a ++ b) = LT.cntL a + LT.cntL b := by
    intro a b
    induction a with
    | nil => simp [LT.cntL]
    | cons t a ih => simp only [List.cons_append, LT.cntL, ih]; omega
  have hl := List.getElem?_eq_some_iff.1 h
  rw [List.take_succ_eq_append_getElem hl.1, happ, hl.2]
  simp [LT.cntL]
theorem LT.cntL_take_le (l : List LT) (k : Nat) : LT.cntL (l.take k) ≤ LT.cntL l := by
  have happ : ∀ (a b : List LT), LT.cntL (a ++ b) = LT.cntL a + LT.cntL b := by
    intro a b
    induction a with
    | nil => simp [LT.cntL]
    | cons t a ih => simp only [List.cons_append, LT.cntL, ih]; omega
  conv => rhs; rw [← List.take_append_drop k l, happ]
  omega

set_option maxHeartbeats 1000000 in
theorem Word05_any (n : Int) (w : World) :
    Calls Tryz.prog 103 #[.int .i64 n] w fun e w' => e = .returned (.bool (decide (-2147483648 ≤ n) && decide (n ≤ 2147483647))) ∧ w' = w := by
  by_cases h1 : -2147483648 ≤ n
  · by_cases h2 : n ≤ 2147483647
    all_goals
      go_enter Tryz.func103, Tryz.ntmps103
      go_wp2
      go_ret
      exact ⟨ret_bool (by simp [h1, h2]), rfl⟩
  · go_enter Tryz.func103, Tryz.ntmps103
    go_wp2
    go_ret
    exact ⟨ret_bool (by rw [decide_eq_false (show ¬ -2147483648 ≤ n by omega)]; rfl), rfl⟩
set_option maxRecDepth 100000 in
set_option maxHeartbeats 1000000 in
theorem Text05_any (s : ByteArray) (w : World) (hs : s.size ≤ maxLen) :
    Calls Tryz.prog 104 #[.string s] w fun e w' => e = .returned (.bool (okText s.data.toList)) ∧ w' = w := by
  unfold maxLen at hs
  go_enter Tryz.func104, Tryz.ntmps104
  go_wp2
  go_loop [3] (fun i => ∃ k : Nat, k ≤ s.size ∧ i = .int .i64 k ∧ (s.data.toList.take k).all okCh = true) (fun i => s.size - (intOf i).toNat)
  case atStart => exact ⟨0, Nat.zero_le _, rfl, rfl⟩
  case round =>
    obtain ⟨k, hk, rfl, hall⟩ := hrel
    have HA := Lib.hid hall
    clear hall
    by_cases hlt : k < s.size
    · by_cases h1 : (s[k].toNat : Int) < 32
      · go_wp2
        go_ret
        exact ⟨ret_bool (okText_no hlt (by unfold okCh; rw [decide_eq_false (by omega)]; rfl)).symm, rfl⟩
      · by_cases h2 : (126 : Int) < (s[k].toNat : Int)
        · go_wp2
          go_ret
          exact ⟨ret_bool (okText_no hlt (by unfold okCh; rw [Bool.and_eq_false_iff]; right; exact decide_eq_false (by omega))).symm, rfl⟩
        · go_wp2
          go_round
          case rel => exact ⟨k + 1, by omega, by go_num, by rw [take_snocB s k hlt, List.all_append, HA.out]; simp [okCh]; omega⟩
          case measure => simp [intOf]; omega
    · have hall : s.data.toList.all okCh = true := by
        have := HA.out
        rwa [List.take_of_length_le (by simp; omega)] at this
      have HL := Lib.hid hall
      clear hall
      by_cases h100 : s.size ≤ 100
      all_goals
        go_wp2
        go_ret
        exact ⟨ret_bool (by unfold okText; rw [HL.out]; simp; omega), rfl⟩
set_option maxHeartbeats 1000000 in
theorem number_any (x y : Int) (w : World) :
    Calls Tryz.prog 130 #[.int .i64 x, .int .i64 y] w fun e w' => e = .returned (.int .i64 (Lib.compareInt x y)) ∧ w' = w := by
  rcases Int.lt_trichotomy x y with h | h | h
  all_goals
    have h1 : Lib.compareInt x y = if x < y then -1 else if x > y then 1 else 0 := rfl
    have H1 := Lib.hid h1
    clear h1
    (try subst h)
    go_enter Tryz.func130, Tryz.ntmps130
    go_wp2
    go_ret
    refine ⟨ret_int ?_, rfl⟩
    rw [H1.out]
    simp
    try omega

/-- What Valid answers: how many values are left, and whether it is valid. -/
def ValR (d : Nat) (T : LT) (left : Int) (w : World) (e : Ending) (w' : World) : Prop :=
  ∃ (m : Int) (b : Bool), e = .returned (.tuple #[.int .i64 m, .bool b]) ∧ b = (shapedF d T && decide ((T.cnt : Int) ≤ left)) ∧ (b = true → m = left - T.cnt) ∧ Hid (Below w.heap.size w w')
theorem ValR.no {d : Nat} {T : LT} {left : Int} {w : World} {e : Ending} {w' : World} (he : e = .returned (.tuple #[.int .i64 0, .bool false])) (h : (shapedF d T && decide ((T.cnt : Int) ≤ left)) = false) (hb : Below w.heap.size w w') : ValR d T left w e w' :=
  ⟨0, false, he, h.symm, by simp, Lib.hid hb⟩

set_option maxRecDepth 100000 in
set_option maxHeartbeats 8000000 in
theorem Valid05_any : ∀ (d : Nat) (z : Int), z = d → d ≤ 6 → ∀ (T : LT) (left : Int), 0 ≤ left → left ≤ 60 → ∀ (n₀ : Nat) (w : World), IsT n₀ w T → n₀ ≤ w.heap.size →
    Calls Tryz.prog 88 #[T.node.val, .int .i64 left, .int .i64 z] w fun e w' => ValR d T left w e w' := by
  intro d
  induction d with
  | zero =>
    intro z hz _ T left hl0 hl60 n₀ w hT hn
    have HF : Hid ((shapedF 0 T && decide ((T.cnt : Int) ≤ left)) = false) := Lib.hid (by simp [shapedF])
    obtain ⟨⟨xk, xn, xs, xa, xl, xc⟩, kids⟩ := T
    have hz0 : z = 0 := by omega
    clear hz
    subst hz0
    dsimp only [LT.node, Node.val]
    clear hT hn
    by_cases hl : left = 0
    · subst hl
      go_enter Tryz.func88, Tryz.ntmps88
      go_wp2
      go_ret2
      exact ValR.no rfl HF.out ((Below.refl _ _).alloc (Nat.le_refl _) _)
    · have hl1 : ¬ left - 1 < 0 := by omega
      go_enter Tryz.func88, Tryz.ntmps88
      go_wp2
      go_ret2
      exact ValR.no rfl HF.out ((Below.refl _ _).alloc (Nat.le_refl _) _)
  | succ d ih =>
    intro z hz h6 T left hl0 hl60 n₀ w hT hn
    obtain ⟨⟨xk, xn, xs, xa, xl, xc⟩, kids⟩ := T
    dsimp only [LT.node, Node.val]
    cases hT with
    | mk _ _ hlx hsx hmx hcx hkx =>
    simp only at hlx hsx hmx hcx
    have hz1 : ¬ z < 1 := by omega
    have hzl : 1 ≤ z := by omega
    have hzu : z ≤ 6 := by omega
    have hxl : (xl : Int) ≤ 140737488351232 := by omega
    have IH := Lib.hid (ih (z - 1) (by omega) (by omega))
    have HC := Lib.hid hcx
    have HK := Lib.hid hkx
    have HL := Lib.hid hlx
    have HN := Lib.hid hn
    clear ih hcx hkx hmx hz h6 hlx hn
    have hq1 : (w.alloc (.cells #[.int .i64 xk, .int .i64 xn, .string xs, .slice xa xl xc] 44)).heap[w.heap.size]? = some (.cells #[.int .i64 xk, .int .i64 xn, .string xs, .slice xa xl xc] 44 (0, 0)) := World.alloc_heap_new w _
    have HX := Lib.hid hq1
    have hb1 : Below w.heap.size w (w.alloc (.cells #[.int .i64 xk, .int .i64 xn, .string xs, .slice xa xl xc] 44)) := (Below.refl _ _).alloc (Nat.le_refl _) _
    have HB := Lib.hid hb1
    clear hq1 hb1
    by_cases hl : left = 0
    · subst hl
      have HF : Hid ((shapedF (d + 1) (.mk ⟨xk, xn, xs, xa, xl, xc⟩ kids) && decide (((LT.mk ⟨xk, xn, xs, xa, xl, xc⟩ kids).cnt : Int) ≤ 0)) = false) := Lib.hid (by
        rw [Bool.and_eq_false_iff]; right; apply decide_eq_false; have := (LT.mk ⟨xk, xn, xs, xa, xl, xc⟩ kids).cnt_pos; omega)
      go_enter Tryz.func88, Tryz.ntmps88
      go_wp2
      go_ret2
      exact ValR.no rfl HF.out HB.out
    have hl1 : ¬ left - 1 < 0 := by omega
    -- a value that is not valid by itself is none
    have HNO : Hid (okNode xk xn xs.data.toList xl = false → (shapedF (d + 1) (.mk ⟨xk, xn, xs, xa, xl, xc⟩ kids) && decide (((LT.mk ⟨xk, xn, xs, xa, xl, xc⟩ kids).cnt : Int) ≤ left)) = false) := Lib.hid (fun h => by simp only [shapedF]; rw [h]; rfl)
    -- a leaf that is valid by itself is valid
    have HLF : Hid (okNode xk xn xs.data.toList xl = true → xl = 0 → (shapedF (d + 1) (.mk ⟨xk, xn, xs, xa, xl, xc⟩ kids) && decide (((LT.mk ⟨xk, xn, xs, xa, xl, xc⟩ kids).cnt : Int) ≤ left)) = true ∧ left - 1 = left - ((LT.mk ⟨xk, xn, xs, xa, xl, xc⟩ kids).cnt : Int)) := Lib.hid (fun h h0 => by
      have hnil : kids = [] := List.eq_nil_of_length_eq_zero (by have := HL.out; omega)
      subst hnil
      simp only [shapedF]
      rw [h]
      simp [LT.cnt, LT.cntL]; omega)
    by_cases hk0 : xk = 0
    · subst hk0
      obtain ⟨r, hr⟩ : ∃ r, (decide (-2147483648 ≤ xn) && decide (xn ≤ 2147483647)) = r := ⟨_, rfl⟩
      have hW := fun w => Word05_any xn w
      rw [hr] at hW
      have HR := Lib.hid hr
      clear hr
      rcases empty_iff xs with ⟨hs0, hs1⟩ | ⟨hs0, hs1⟩
      all_goals
        have HS := Lib.hid hs1
        clear hs1
        by_cases hx0 : xl = 0
        · subst hx0
          obtain ⟨q, hq⟩ : ∃ q, okNode 0 xn xs.data.toList 0 = q := ⟨_, rfl⟩
          rw [hq] at HNO HLF
          rw [okNode_0, HR.out, HS.out] at hq
          have HQ := Lib.hid hq
          clear hq
          cases r
          all_goals
            go_enter Tryz.func88, Tryz.ntmps88
            go_wp2
            generalize (w.alloc (.cells #[.int .i64 0, .int .i64 xn, .string xs, .slice xa 0 xc] 44)) = W0 at HB HX ⊢
            obtain ⟨⟨b0, b1, b2, b3⟩, _⟩ := cells4 HX.out
            go_quiet ((go_at_call 103; refine Calls.quiet_of_same (hW _)))
            go_wp2
            go_ret2
            have HBN : Hid (Below w.heap.size w (W0.drewN nq)) := Lib.hid (HB.out.trans ⟨rfl, rfl, rfl, Nat.le_refl _, fun _ _ => rfl⟩)
            have hq := HQ.out
            simp  at hq
            subst hq
            first
              | exact ⟨_, false, rfl, (HNO.out rfl).symm, by simp, HBN⟩
              | exact ⟨_, true, rfl, (HLF.out rfl (by first | rfl | trivial)).1.symm, fun _ => (HLF.out rfl (by first | rfl | trivial)).2, HBN⟩
        · have hx0i : ((xl : Int) == 0) = false := by simp; omega
          obtain ⟨q, hq⟩ : ∃ q, okNode 0 xn xs.data.toList xl = q := ⟨_, rfl⟩
          rw [hq] at HNO HLF
          rw [okNode_0, HR.out, HS.out] at hq
          have HQ := Lib.hid hq
          clear hq
          cases r
          all_goals
            go_enter Tryz.func88, Tryz.ntmps88
            go_wp2
            generalize (w.alloc (.cells #[.int .i64 0, .int .i64 xn, .string xs, .slice xa xl xc] 44)) = W0 at HB HX ⊢
            obtain ⟨⟨b0, b1, b2, b3⟩, _⟩ := cells4 HX.out
            go_quiet ((go_at_call 103; refine Calls.quiet_of_same (hW _)))
            go_wp2
            go_ret2
            have HBN : Hid (Below w.heap.size w (W0.drewN nq)) := Lib.hid (HB.out.trans ⟨rfl, rfl, rfl, Nat.le_refl _, fun _ _ => rfl⟩)
            have hq := HQ.out
            simp [hx0] at hq
            subst hq
            first
              | exact ⟨_, false, rfl, (HNO.out rfl).symm, by simp, HBN⟩
              | exact ⟨_, true, rfl, (HLF.out rfl (by first | rfl | trivial)).1.symm, fun _ => (HLF.out rfl (by first | rfl | trivial)).2, HBN⟩
    by_cases hk1 : xk = 1
    · subst hk1
      obtain ⟨r, hr⟩ : ∃ r, okText xs.data.toList = r := ⟨_, rfl⟩
      have hW := fun w => Text05_any xs w hsx
      rw [hr] at hW
      have HR := Lib.hid hr
      clear hr
      by_cases hn0 : xn = 0
      · subst hn0
        by_cases hx0 : xl = 0
        · subst hx0
          obtain ⟨q, hq⟩ : ∃ q, okNode 1 0 xs.data.toList 0 = q := ⟨_, rfl⟩
          rw [hq] at HNO HLF
          rw [okNode_1, HR.out] at hq
          have HQ := Lib.hid hq
          clear hq
          cases r
          all_goals
            go_enter Tryz.func88, Tryz.ntmps88
            go_wp2
            generalize (w.alloc (.cells #[.int .i64 1, .int .i64 0, .string xs, .slice xa 0 xc] 44)) = W0 at HB HX ⊢
            obtain ⟨⟨b0, b1, b2, b3⟩, _⟩ := cells4 HX.out
            go_quiet ((go_at_call 104; refine Calls.quiet_of_same (hW _)))
            go_wp2
            go_ret2
            have HBN : Hid (Below w.heap.size w (W0.drewN nq)) := Lib.hid (HB.out.trans ⟨rfl, rfl, rfl, Nat.le_refl _, fun _ _ => rfl⟩)
            have hq := HQ.out
            simp  at hq
            subst hq
            first
              | exact ⟨_, false, rfl, (HNO.out rfl).symm, by simp, HBN⟩
              | exact ⟨_, true, rfl, (HLF.out rfl (by first | rfl | trivial)).1.symm, fun _ => (HLF.out rfl (by first | rfl | trivial)).2, HBN⟩
        · have hx0i : ((xl : Int) == 0) = false := by simp; omega
          obtain ⟨q, hq⟩ : ∃ q, okNode 1 0 xs.data.toList xl = q := ⟨_, rfl⟩
          rw [hq] at HNO HLF
          rw [okNode_1, HR.out] at hq
          have HQ := Lib.hid hq
          clear hq
          cases r
          all_goals
            go_enter Tryz.func88, Tryz.ntmps88
            go_wp2
            generalize (w.alloc (.cells #[.int .i64 1, .int .i64 0, .string xs, .slice xa xl xc] 44)) = W0 at HB HX ⊢
            obtain ⟨⟨b0, b1, b2, b3⟩, _⟩ := cells4 HX.out
            go_quiet ((go_at_call 104; refine Calls.quiet_of_same (hW _)))
            go_wp2
            go_ret2
            have HBN : Hid (Below w.heap.size w (W0.drewN nq)) := Lib.hid (HB.out.trans ⟨rfl, rfl, rfl, Nat.le_refl _, fun _ _ => rfl⟩)
            have hq := HQ.out
            simp [hx0] at hq
            subst hq
            first
              | exact ⟨_, false, rfl, (HNO.out rfl).symm, by simp, HBN⟩
              | exact ⟨_, true, rfl, (HLF.out rfl (by first | rfl | trivial)).1.symm, fun _ => (HLF.out rfl (by first | rfl | trivial)).2, HBN⟩
      · have hn0i : (xn == 0) = false := by simp; omega
        by_cases hx0 : xl = 0
        · subst hx0
          obtain ⟨q, hq⟩ : ∃ q, okNode 1 xn xs.data.toList 0 = q := ⟨_, rfl⟩
          rw [hq] at HNO HLF
          rw [okNode_1, HR.out] at hq
          have HQ := Lib.hid hq
          clear hq
          cases r
          all_goals
            go_enter Tryz.func88, Tryz.ntmps88
            go_wp2
            generalize (w.alloc (.cells #[.int .i64 1, .int .i64 xn, .string xs, .slice xa 0 xc] 44)) = W0 at HB HX ⊢
            obtain ⟨⟨b0, b1, b2, b3⟩, _⟩ := cells4 HX.out
            go_quiet ((go_at_call 104; refine Calls.quiet_of_same (hW _)))
            go_wp2
            go_ret2
            have HBN : Hid (Below w.heap.size w (W0.drewN nq)) := Lib.hid (HB.out.trans ⟨rfl, rfl, rfl, Nat.le_refl _, fun _ _ => rfl⟩)
            have hq := HQ.out
            simp [hn0] at hq
            subst hq
            first
              | exact ⟨_, false, rfl, (HNO.out rfl).symm, by simp, HBN⟩
              | exact ⟨_, true, rfl, (HLF.out rfl (by first | rfl | trivial)).1.symm, fun _ => (HLF.out rfl (by first | rfl | trivial)).2, HBN⟩
        · have hx0i : ((xl : Int) == 0) = false := by simp; omega
          obtain ⟨q, hq⟩ : ∃ q, okNode 1 xn xs.data.toList xl = q := ⟨_, rfl⟩
          rw [hq] at HNO HLF
          rw [okNode_1, HR.out] at hq
          have HQ := Lib.hid hq
          clear hq
          cases r
          all_goals
            go_enter Tryz.func88, Tryz.ntmps88
            go_wp2
            generalize (w.alloc (.cells #[.int .i64 1, .int .i64 xn, .string xs, .slice xa xl xc] 44)) = W0 at HB HX ⊢
            obtain ⟨⟨b0, b1, b2, b3⟩, _⟩ := cells4 HX.out
            go_quiet ((go_at_call 104; refine Calls.quiet_of_same (hW _)))
            go_wp2
            go_ret2
            have HBN : Hid (Below w.heap.size w (W0.drewN nq)) := Lib.hid (HB.out.trans ⟨rfl, rfl, rfl, Nat.le_refl _, fun _ _ => rfl⟩)
            have hq := HQ.out
            simp [hn0, hx0] at hq
            subst hq
            first
              | exact ⟨_, false, rfl, (HNO.out rfl).symm, by simp, HBN⟩
              | exact ⟨_, true, rfl, (HLF.out rfl (by first | rfl | trivial)).1.symm, fun _ => (HLF.out rfl (by first | rfl | trivial)).2, HBN⟩
    by_cases hk2 : xk = 2
    · subst hk2
      rcases empty_iff xs with ⟨hs0, hs1⟩ | ⟨hs0, hs1⟩
      · have HS := Lib.hid hs1
        clear hs1
        by_cases hn0 : xn = 0
        · subst hn0
          by_cases hx8 : xl ≤ 8
          · have h8i : (xl : Int) ≤ 8 := by omega
            have HO : Hid (okNode 2 0 xs.data.toList xl = true) := Lib.hid (by rw [okNode_2, HS.out]; simp [hx8])
            clear HNO HLF
            go_enter Tryz.func88, Tryz.ntmps88
            go_wp2

            go_loopw [1, 8] (fun l i wr => ∃ k : Nat, k ≤ xl ∧ i = .int .i64 k ∧ (∃ u : Int, l = .int .i64 u ∧ 0 ≤ u ∧ u ≤ 60 ∧ Hid (u = left - 1 - LT.cntL (kids.take k) ∧ (kids.take k).all (shapedF d) = true)) ∧ Hid (Below (w.alloc (.cells #[.int .i64 2, .int .i64 0, .string xs, .slice xa xl xc] 44)).heap.size (w.alloc (.cells #[.int .i64 2, .int .i64 0, .string xs, .slice xa xl xc] 44)) wr)) (fun _ i _ => xl - (intOf i).toNat)
            case atStart => exact ⟨0, Nat.zero_le _, rfl, ⟨left - 1, rfl, by omega, by omega, Lib.hid (by simp [LT.cntL])⟩, Lib.hid (Below.refl _ _)⟩
            case round =>
              obtain ⟨k, hk, rfl, ⟨u, rfl, u0, u60, HU⟩, HW⟩ := hrel
              have HBW := Lib.hid (HB.out.trans (HW.out.mono HB.out.size))
              obtain ⟨⟨b0, b1, b2, b3⟩, _⟩ := cells4 ((HW.out.block _ (Array.getElem?_eq_some_iff.1 HX.out).1).trans HX.out)
              by_cases hlt : k < xl
              · have hkl : k < kids.length := by have := HL.out; omega
                obtain ⟨c, hcc⟩ : ∃ c, kids[k]? = some c := ⟨kids[k], by simp [hkl]⟩
                obtain ⟨b, off, rfl, hbb, e0, e1, e2, e3⟩ := HC.out k c hcc
                have hn := HN.out
                have f0 := ((HBW.out.mono hn).cell (p := ⟨b, off + k * 4, none⟩) hbb).trans e0
                have f1 := ((HBW.out.mono hn).cell (p := ⟨b, off + k * 4 + 1, none⟩) hbb).trans e1
                have f2 := ((HBW.out.mono hn).cell (p := ⟨b, off + k * 4 + 2, none⟩) hbb).trans e2
                have f3 := ((HBW.out.mono hn).cell (p := ⟨b, off + k * 4 + 3, none⟩) hbb).trans e3
                have hC := IH.out c u u0 u60 n₀ wr ((HK.out c (List.mem_of_getElem? hcc)).bel (HBW.out.mono hn)) (by have := HBW.out.size; omega)
                have HT := Lib.hid (LT.cntL_take hcc)
                have HA := Lib.hid (And.intro hcc (List.mem_of_getElem? hcc))
                have hC' : Calls Tryz.prog 88 #[.agg #[.int .i64 c.node.k, .int .i64 c.node.n, .string c.node.s, .slice c.node.a c.node.len c.node.cap], .int .i64 u, .int .i64 (z - 1)] wr fun e W' => ValR d c u wr e W' := hC
                clear hC hcc hbb e0 e1 e2 e3 hkl hn
                go_upto_if 112 with (go_at_call 88; refine hC'.mono ?_; clear hC'; rintro e W4 ⟨m, q, rfl, hq, hm, H4⟩; have HQ2 := Lib.hid (And.intro hq hm); clear hq hm)
                have HW4 := Lib.hid (HW.out.trans (H4.out.mono HW.out.size))
                cases q with
                | false =>
                  have HF : Hid ((shapedF (d + 1) (.mk ⟨2, 0, xs, (some ⟨b, off, none⟩), xl, xc⟩ kids) && decide (((LT.mk ⟨2, 0, xs, (some ⟨b, off, none⟩), xl, xc⟩ kids).cnt : Int) ≤ left)) = false) := Lib.hid (by
                    have h1 := HQ2.out.1.symm
                    rw [Bool.and_eq_false_iff] at h1 ⊢
                    rcases h1 with h1 | h1
                    · left
                      simp only [shapedF]
                      rw [Bool.and_eq_false_iff]
                      right
                      rw [List.all_eq_false]
                      exact ⟨c, HA.out.2, by simp [h1]⟩
                    · right
                      have h2 := of_decide_eq_false h1
                      apply decide_eq_false
                      have h3 := HU.out.1
                      have h4 := HT.out
                      have h5 := LT.cntL_take_le kids (k + 1)
                      simp only [LT.cnt]
                      omega)
                  clear HQ2
                  go_wp2
                  go_ret2
                  exact ValR.no rfl HF.out (HB.out.trans (HW4.out.mono HB.out.size))
                | true =>
                  have h1 := HQ2.out.1.symm
                  have h2 := HQ2.out.2 rfl
                  rw [Bool.and_eq_true, decide_eq_true_eq] at h1
                  have m0 : 0 ≤ m := by omega
                  have m60 : m ≤ 60 := by omega
                  have HM : Hid (m = left - 1 - LT.cntL (kids.take (k + 1)) ∧ (kids.take (k + 1)).all (shapedF d) = true) := Lib.hid (by
                    have h3 := HU.out
                    have h4 := HT.out
                    refine ⟨by omega, ?_⟩
                    have hl := List.getElem?_eq_some_iff.1 HA.out.1
                    rw [List.take_succ_eq_append_getElem hl.1, List.all_append, hl.2, h3.2]
                    simp [h1.1])
                  clear HQ2 h1 h2
                  go_wp2
                  go_roundw
                  case rel => exact ⟨k + 1, by omega, by go_num, ⟨m, rfl, m0, m60, HM⟩, HW4⟩
                  case measure => simp [intOf]; omega
              · have hks : kids.length ≤ k := by have := HL.out; omega
                have HF : Hid (u = left - (LT.mk ⟨2, 0, xs, xa, xl, xc⟩ kids).cnt ∧ (shapedF (d + 1) (.mk ⟨2, 0, xs, xa, xl, xc⟩ kids) && decide (((LT.mk ⟨2, 0, xs, xa, xl, xc⟩ kids).cnt : Int) ≤ left)) = true) := Lib.hid (by
                  have h1 := HU.out
                  rw [List.take_of_length_le hks] at h1
                  refine ⟨by simp only [LT.cnt]; omega, ?_⟩
                  rw [Bool.and_eq_true, decide_eq_true_eq]
                  refine ⟨?_, by simp only [LT.cnt]; omega⟩
                  simp only [shapedF]
                  rw [HO.out, h1.2]
                  rfl)
                have hi1 : ¬ (k : Int) < xl := by omega
                clear hks
                go_wp2
                go_ret2
                exact ⟨u, true, rfl, HF.out.2.symm, fun _ => HF.out.1, Lib.hid HBW.out⟩
          · have h8i : (8 : Int) < xl := by omega
            have HF := Lib.hid (HNO.out (by rw [okNode_2, HS.out]; simp [hx8]))
            go_enter Tryz.func88, Tryz.ntmps88
            go_wp2
            go_ret2
            exact ValR.no rfl HF.out HB.out
        · have hn0i : (xn == 0) = false := by simp; omega
          by_cases hx8 : xl ≤ 8
          · have h8i : (xl : Int) ≤ 8 := by omega
            have HF := Lib.hid (HNO.out (by rw [okNode_2, HS.out]; simp [hn0, hx8]))
            go_enter Tryz.func88, Tryz.ntmps88
            go_wp2
            go_ret2
            exact ValR.no rfl HF.out HB.out
          · have h8i : (8 : Int) < xl := by omega
            have HF := Lib.hid (HNO.out (by rw [okNode_2, HS.out]; simp [hn0, hx8]))
            go_enter Tryz.func88, Tryz.ntmps88
            go_wp2
            go_ret2
            exact ValR.no rfl HF.out HB.out
      · have HS := Lib.hid hs1
        clear hs1
        by_cases hn0 : xn = 0
        · subst hn0
          by_cases hx8 : xl ≤ 8
          · have h8i : (xl : Int) ≤ 8 := by omega
            have HF := Lib.hid (HNO.out (by rw [okNode_2, HS.out]; simp [hx8]))
            go_enter Tryz.func88, Tryz.ntmps88
            go_wp2
            go_ret2
            exact ValR.no rfl HF.out HB.out
          · have h8i : (8 : Int) < xl := by omega
            have HF := Lib.hid (HNO.out (by rw [okNode_2, HS.out]; simp [hx8]))
            go_enter Tryz.func88, Tryz.ntmps88
            go_wp2
            go_ret2
            exact ValR.no rfl HF.out HB.out
        · have hn0i : (xn == 0) = false := by simp; omega
          by_cases hx8 : xl ≤ 8
          · have h8i : (xl : Int) ≤ 8 := by omega
            have HF := Lib.hid (HNO.out (by rw [okNode_2, HS.out]; simp [hn0, hx8]))
            go_enter Tryz.func88, Tryz.ntmps88
            go_wp2
            go_ret2
            exact ValR.no rfl HF.out HB.out
          · have h8i : (8 : Int) < xl := by omega
            have HF := Lib.hid (HNO.out (by rw [okNode_2, HS.out]; simp [hn0, hx8]))
            go_enter Tryz.func88, Tryz.ntmps88
            go_wp2
            go_ret2
            exact ValR.no rfl HF.out HB.out
    by_cases hk3 : xk = 3
    · subst hk3
      by_cases hn0 : xn < 0
      · have hn1 : ¬ 0 ≤ xn := by omega
        have HF := Lib.hid (HNO.out (by rw [okNode_3]; simp [hn1]))
        go_enter Tryz.func88, Tryz.ntmps88
        go_wp2
        go_ret2
        exact ValR.no rfl HF.out HB.out
      · have hn1 : 0 ≤ xn := by omega
        by_cases hn8 : 8 ≤ xn
        · have hn2 : ¬ xn < 8 := by omega
          have HF := Lib.hid (HNO.out (by rw [okNode_3]; simp [hn2]))
          go_enter Tryz.func88, Tryz.ntmps88
          go_wp2
          go_ret2
          exact ValR.no rfl HF.out HB.out
        · have hn2 : xn < 8 := by omega
          rcases empty_iff xs with ⟨hs0, hs1⟩ | ⟨hs0, hs1⟩
          · have HS := Lib.hid hs1
            clear hs1
            by_cases hx1 : xl = 1
            · have h1i : (xl : Int) = 1 := by omega
              subst hx1
              have HO : Hid (okNode 3 xn xs.data.toList 1 = true) := Lib.hid (by rw [okNode_3, HS.out]; simp [hn1, hn2])
              clear HNO HLF
              go_enter Tryz.func88, Tryz.ntmps88
              go_wp2

              go_loopw [1, 8] (fun l i wr => ∃ k : Nat, k ≤ 1 ∧ i = .int .i64 k ∧ (∃ u : Int, l = .int .i64 u ∧ 0 ≤ u ∧ u ≤ 60 ∧ Hid (u = left - 1 - LT.cntL (kids.take k) ∧ (kids.take k).all (shapedF d) = true)) ∧ Hid (Below (w.alloc (.cells #[.int .i64 3, .int .i64 xn, .string xs, .slice xa 1 xc] 44)).heap.size (w.alloc (.cells #[.int .i64 3, .int .i64 xn, .string xs, .slice xa 1 xc] 44)) wr)) (fun _ i _ => 1 - (intOf i).toNat)
              case atStart => exact ⟨0, Nat.zero_le _, rfl, ⟨left - 1, rfl, by omega, by omega, Lib.hid (by simp [LT.cntL])⟩, Lib.hid (Below.refl _ _)⟩
              case round =>
                obtain ⟨k, hk, rfl, ⟨u, rfl, u0, u60, HU⟩, HW⟩ := hrel
                have HBW := Lib.hid (HB.out.trans (HW.out.mono HB.out.size))
                obtain ⟨⟨b0, b1, b2, b3⟩, _⟩ := cells4 ((HW.out.block _ (Array.getElem?_eq_some_iff.1 HX.out).1).trans HX.out)
                by_cases hlt : k < 1
                · have hkl : k < kids.length := by have := HL.out; omega
                  obtain ⟨c, hcc⟩ : ∃ c, kids[k]? = some c := ⟨kids[k], by simp [hkl]⟩
                  obtain ⟨b, off, rfl, hbb, e0, e1, e2, e3⟩ := HC.out k c hcc
                  have hn := HN.out
                  have f0 := ((HBW.out.mono hn).cell (p := ⟨b, off + k * 4, none⟩) hbb).trans e0
                  have f1 := ((HBW.out.mono hn).cell (p := ⟨b, off + k * 4 + 1, none⟩) hbb).trans e1
                  have f2 := ((HBW.out.mono hn).cell (p := ⟨b, off + k * 4 + 2, none⟩) hbb).trans e2
                  have f3 := ((HBW.out.mono hn).cell (p := ⟨b, off + k * 4 + 3, none⟩) hbb).trans e3
                  have hC := IH.out c u u0 u60 n₀ wr ((HK.out c (List.mem_of_getElem? hcc)).bel (HBW.out.mono hn)) (by have := HBW.out.size; omega)
                  have HT := Lib.hid (LT.cntL_take hcc)
                  have HA := Lib.hid (And.intro hcc (List.mem_of_getElem? hcc))
                  have hC' : Calls Tryz.prog 88 #[.agg #[.int .i64 c.node.k, .int .i64 c.node.n, .string c.node.s, .slice c.node.a c.node.len c.node.cap], .int .i64 u, .int .i64 (z - 1)] wr fun e W' => ValR d c u wr e W' := hC
                  clear hC hcc hbb e0 e1 e2 e3 hkl hn
                  go_upto_if 112 with (go_at_call 88; refine hC'.mono ?_; clear hC'; rintro e W4 ⟨m, q, rfl, hq, hm, H4⟩; have HQ2 := Lib.hid (And.intro hq hm); clear hq hm)
                  have HW4 := Lib.hid (HW.out.trans (H4.out.mono HW.out.size))
                  cases q with
                  | false =>
                    have HF : Hid ((shapedF (d + 1) (.mk ⟨3, xn, xs, (some ⟨b, off, none⟩), 1, xc⟩ kids) && decide (((LT.mk ⟨3, xn, xs, (some ⟨b, off, none⟩), 1, xc⟩ kids).cnt : Int) ≤ left)) = false) := Lib.hid (by
                      have h1 := HQ2.out.1.symm
                      rw [Bool.and_eq_false_iff] at h1 ⊢
                      rcases h1 with h1 | h1
                      · left
                        simp only [shapedF]
                        rw [Bool.and_eq_false_iff]
                        right
                        rw [List.all_eq_false]
                        exact ⟨c, HA.out.2, by simp [h1]⟩
                      · right
                        have h2 := of_decide_eq_false h1
                        apply decide_eq_false
                        have h3 := HU.out.1
                        have h4 := HT.out
                        have h5 := LT.cntL_take_le kids (k + 1)
                        simp only [LT.cnt]
                        omega)
                    clear HQ2
                    go_wp2
                    go_ret2
                    exact ValR.no rfl HF.out (HB.out.trans (HW4.out.mono HB.out.size))
                  | true =>
                    have h1 := HQ2.out.1.symm
                    have h2 := HQ2.out.2 rfl
                    rw [Bool.and_eq_true, decide_eq_true_eq] at h1
                    have m0 : 0 ≤ m := by omega
                    have m60 : m ≤ 60 := by omega
                    have HM : Hid (m = left - 1 - LT.cntL (kids.take (k + 1)) ∧ (kids.take (k + 1)).all (shapedF d) = true) := Lib.hid (by
                      have h3 := HU.out
                      have h4 := HT.out
                      refine ⟨by omega, ?_⟩
                      have hl := List.getElem?_eq_some_iff.1 HA.out.1
                      rw [List.take_succ_eq_append_getElem hl.1, List.all_append, hl.2, h3.2]
                      simp [h1.1])
                    clear HQ2 h1 h2
                    go_wp2
                    go_roundw
                    case rel => exact ⟨k + 1, by omega, by go_num, ⟨m, rfl, m0, m60, HM⟩, HW4⟩
                    case measure => simp [intOf]; omega
                · have hks : kids.length ≤ k := by have := HL.out; omega
                  have HF : Hid (u = left - (LT.mk ⟨3, xn, xs, xa, 1, xc⟩ kids).cnt ∧ (shapedF (d + 1) (.mk ⟨3, xn, xs, xa, 1, xc⟩ kids) && decide (((LT.mk ⟨3, xn, xs, xa, 1, xc⟩ kids).cnt : Int) ≤ left)) = true) := Lib.hid (by
                    have h1 := HU.out
                    rw [List.take_of_length_le hks] at h1
                    refine ⟨by simp only [LT.cnt]; omega, ?_⟩
                    rw [Bool.and_eq_true, decide_eq_true_eq]
                    refine ⟨?_, by simp only [LT.cnt]; omega⟩
                    simp only [shapedF]
                    rw [HO.out, h1.2]
                    rfl)
                  have hi1 : ¬ (k : Int) < 1 := by omega
                  clear hks
                  go_wp2
                  go_ret2
                  exact ⟨u, true, rfl, HF.out.2.symm, fun _ => HF.out.1, Lib.hid HBW.out⟩
            · have h1i : ((xl : Int) == 1) = false := by simp; omega
              have h1j : ¬ (xl : Int) = 1 := by omega
              have HF := Lib.hid (HNO.out (by rw [okNode_3]; simp [hx1]))
              go_enter Tryz.func88, Tryz.ntmps88
              go_wp2
              go_ret2
              exact ValR.no rfl HF.out HB.out
          · have HS := Lib.hid hs1
            clear hs1
            have HF := Lib.hid (HNO.out (by rw [okNode_3, HS.out]; simp))
            go_enter Tryz.func88, Tryz.ntmps88
            go_wp2
            go_ret2
            exact ValR.no rfl HF.out HB.out
    · have HF := Lib.hid (HNO.out (okNode_x _ _ _ hk0 hk1 hk2 hk3))
      go_enter Tryz.func88, Tryz.ntmps88
      go_wp2
      go_ret2
      exact ValR.no rfl HF.out HB.out
end Go.Proofs.YtlbnfokedkpccaaGreat
