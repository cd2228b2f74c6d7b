/- Contracts of package value: letters, and values by themselves. -/
import Derived.Test.YtofboalgbgipoaaGreatDoorChecked
import Derived.WalkKit
import Derived.IntWalk
import Derived.Lib.Hide
import Derived.Below
import Derived.Lib.Bytes
set_option linter.all false
namespace Go.Proofs.YtofboalgbgipoaaGreatDoor
open Go.RowKit
theorem ret_bool {a b : Bool} (h : a = b) : Ending.returned (.bool a) = .returned (.bool b) := by rw [h]
theorem ret_int {k : IntKind} {a b : Int} (h : a = b) : Ending.returned (.int k a) = .returned (.int k b) := by rw [h]
theorem take_snocB (s : ByteArray) (k : Nat) (h : k < s.size) : s.data.toList.take (k + 1) = s.data.toList.take k ++ [s[k]] := by
  rw [List.take_succ_eq_append_getElem (by simpa using h)]; rfl
def okCh (c : UInt8) : Bool := 32 ≤ c.toNat && c.toNat ≤ 126
def okText (l : List UInt8) : Bool := decide (l.length ≤ 100) && l.all okCh
theorem okText_no {s : ByteArray} {k : Nat} (h : k < s.size) (hc : okCh s[k] = false) : okText s.data.toList = false := by
  unfold okText
  have : s.data.toList.all okCh = false := by
    rw [List.all_eq_false]
    exact ⟨s[k], by rw [show s[k] = s.data.toList[k]'(by simpa using h) from rfl]; exact List.getElem_mem _, by simp [hc]⟩
  rw [this]; simp
set_option maxHeartbeats 400000 in
theorem rightText_any (s : ByteArray) (w : World) (hs : s.size ≤ maxLen) :
    Calls Tryz.prog 46 #[.string s] w fun e w' => e = .returned (.bool (okText s.data.toList)) ∧ w' = w := by
  unfold maxLen at hs
  by_cases hl : 100 < s.size
  · go_enter Tryz.func46, Tryz.ntmps46
    go_wp2
    go_ret
    exact ⟨ret_bool (by unfold okText; rw [decide_eq_false (by simp; omega)]; rfl), rfl⟩
  · go_enter Tryz.func46, Tryz.ntmps46
    go_wp2
    go_loop [9] (fun i => ∃ k : Nat, k ≤ s.size ∧ i = .int .i64 k ∧ (s.data.toList.take k).all okCh = true) (fun i => s.size - (intOf i).toNat)
    case atStart => exact ⟨0, Nat.zero_le _, rfl, rfl⟩
    case round =>
      obtain ⟨k, hk, rfl, hall⟩ := hrel
      have HA := Lib.hid hall
      clear hall
      by_cases hlt : k < s.size
      · by_cases h1 : (s[k].toNat : Int) < 32
        · go_wp2
          go_ret
          exact ⟨ret_bool (okText_no hlt (by unfold okCh; rw [decide_eq_false (by omega)]; rfl)).symm, rfl⟩
        · by_cases h2 : (126 : Int) < (s[k].toNat : Int)
          · go_wp2
            go_ret
            exact ⟨ret_bool (okText_no hlt (by unfold okCh; rw [Bool.and_eq_false_iff]; right; exact decide_eq_false (by omega))).symm, rfl⟩
          · go_wp2
            go_round
            case rel => exact ⟨k + 1, by omega, by go_num, by rw [take_snocB s k hlt, List.all_append, HA.out]; simp [okCh]; omega⟩
            case measure => simp [intOf]; omega
      · go_wp2
        go_ret
        have hks : k = s.size := by omega
        have hall : s.data.toList.all okCh = true := by
          have := HA.out
          rwa [List.take_of_length_le (by simp; omega)] at this
        exact ⟨ret_bool (by unfold okText; rw [hall, decide_eq_true (by simp; omega)]; rfl), rfl⟩

/-- Is a value valid, as far as its parts do not matter? -/
def okNode (k n : Int) (s : List UInt8) (len : Nat) : Bool :=
  if k = 0 then decide (-2147483648 ≤ n) && decide (n ≤ 2147483647) && s.isEmpty && decide (len = 0)
  else if k = 1 then decide (n = 0) && okText s && decide (len = 0)
  else if k = 2 then decide (n = 0) && s.isEmpty && decide (len ≤ 8)
  else if k = 3 then decide (0 ≤ n) && decide (n < 8) && s.isEmpty && decide (len = 1)
  else false
set_option maxRecDepth 100000 in
set_option maxHeartbeats 1000000 in
theorem rightValue_any (k n : Int) (s : ByteArray) (a : Option Addr) (len cap : Nat) (w : World) (hs : s.size ≤ maxLen) (hl : len ≤ maxLen) :
    Calls Tryz.prog 21 #[.agg #[.int .i64 k, .int .i64 n, .string s, .slice a len cap]] w fun e w' => e = .returned (.bool (okNode k n s.data.toList len)) ∧ Below w.heap.size w w' := by
  unfold maxLen at hs hl
  by_cases hk0 : k = 0
  · subst hk0
    by_cases h1 : n < -2147483648
    · go_enter Tryz.func21, Tryz.ntmps21
      go_wp2
      all_goals (go_ret; refine ⟨ret_bool ?_, (Below.refl _ _).alloc (Nat.le_refl _) _⟩; simp [okNode]; try omega)
    by_cases h2 : 2147483647 < n
    · go_enter Tryz.func21, Tryz.ntmps21
      go_wp2
      all_goals (go_ret; refine ⟨ret_bool ?_, (Below.refl _ _).alloc (Nat.le_refl _) _⟩; simp [okNode]; try omega)
    have hn1 : decide (-2147483648 ≤ n) = true := decide_eq_true (by omega)
    have hn2 : decide (n ≤ 2147483647) = true := decide_eq_true (by omega)
    have HN := Lib.hid hn1
    have HM := Lib.hid hn2
    clear hn1 hn2
    by_cases hs0 : s.toList = []
    · have HS : Hid (s.data.toList.isEmpty = true) := Lib.hid (by rw [← Lib.toList_data, hs0]; rfl)
      by_cases hl0 : len = 0
      all_goals
        go_enter Tryz.func21, Tryz.ntmps21
        go_wp2
        all_goals (go_ret; refine ⟨ret_bool ?_, (Below.refl _ _).alloc (Nat.le_refl _) _⟩; have h' := HS.out; generalize s.data.toList = l at h' ⊢; simp [okNode, h', hl0, HN.out, HM.out]; try omega)
    · have HS : Hid (s.data.toList.isEmpty = false) := Lib.hid (by rw [← Lib.toList_data]; cases h : s.toList with | nil => exact absurd h hs0 | cons x l => rfl)
      by_cases hl0 : len = 0
      all_goals
        go_enter Tryz.func21, Tryz.ntmps21
        go_wp2
        all_goals (go_ret; refine ⟨ret_bool ?_, (Below.refl _ _).alloc (Nat.le_refl _) _⟩; have h' := HS.out; generalize s.data.toList = l at h' ⊢; simp [okNode, h', hl0, HN.out, HM.out]; try omega)
  by_cases hk1 : k = 1
  · subst hk1
    by_cases h1 : n = 0
    · subst h1
      by_cases hl0 : len = 0
      all_goals
        go_enter Tryz.func21, Tryz.ntmps21
        go_wp2_with (go_at_call 46; refine (rightText_any _ _ (by unfold maxLen; omega)).mono ?_; rintro e w' ⟨rfl, rfl⟩)
        all_goals (go_ret; refine ⟨ret_bool ?_, (Below.refl _ _).alloc (Nat.le_refl _) _⟩; simp [okNode, hl0, *])
    · go_enter Tryz.func21, Tryz.ntmps21
      go_wp2
      all_goals (go_ret; refine ⟨ret_bool ?_, (Below.refl _ _).alloc (Nat.le_refl _) _⟩; simp [okNode, h1]; try omega)
  by_cases hk2 : k = 2
  · subst hk2
    by_cases h1 : n = 0
    · subst h1
      by_cases hs0 : s.toList = []
      · have HS : Hid (s.data.toList.isEmpty = true) := Lib.hid (by rw [← Lib.toList_data, hs0]; rfl)
        by_cases hl0 : 8 < len
        all_goals
          go_enter Tryz.func21, Tryz.ntmps21
          go_wp2
          all_goals (go_ret; refine ⟨ret_bool ?_, (Below.refl _ _).alloc (Nat.le_refl _) _⟩; have h' := HS.out; generalize s.data.toList = l at h' ⊢; simp [okNode, h', hl0]; try omega)
      · have HS : Hid (s.data.toList.isEmpty = false) := Lib.hid (by rw [← Lib.toList_data]; cases h : s.toList with | nil => exact absurd h hs0 | cons x l => rfl)
        by_cases hl0 : 8 < len
        all_goals
          go_enter Tryz.func21, Tryz.ntmps21
          go_wp2
          all_goals (go_ret; refine ⟨ret_bool ?_, (Below.refl _ _).alloc (Nat.le_refl _) _⟩; have h' := HS.out; generalize s.data.toList = l at h' ⊢; simp [okNode, h', hl0]; try omega)
    · go_enter Tryz.func21, Tryz.ntmps21
      go_wp2
      all_goals (go_ret; refine ⟨ret_bool ?_, (Below.refl _ _).alloc (Nat.le_refl _) _⟩; simp [okNode, h1]; try omega)
  by_cases hk3 : k = 3
  · subst hk3
    by_cases h1 : n < 0
    · go_enter Tryz.func21, Tryz.ntmps21
      go_wp2
      all_goals (go_ret; refine ⟨ret_bool ?_, (Below.refl _ _).alloc (Nat.le_refl _) _⟩; simp [okNode]; try omega)
    by_cases h2 : 8 ≤ n
    · go_enter Tryz.func21, Tryz.ntmps21
      go_wp2
      all_goals (go_ret; refine ⟨ret_bool ?_, (Below.refl _ _).alloc (Nat.le_refl _) _⟩; simp [okNode]; try omega)
    have hn1 : decide (0 ≤ n) = true := decide_eq_true (by omega)
    have hn2 : decide (n < 8) = true := decide_eq_true (by omega)
    have HN := Lib.hid hn1
    have HM := Lib.hid hn2
    clear hn1 hn2
    by_cases hs0 : s.toList = []
    · have HS : Hid (s.data.toList.isEmpty = true) := Lib.hid (by rw [← Lib.toList_data, hs0]; rfl)
      by_cases hl0 : len = 1
      all_goals
        go_enter Tryz.func21, Tryz.ntmps21
        go_wp2
        all_goals (go_ret; refine ⟨ret_bool ?_, (Below.refl _ _).alloc (Nat.le_refl _) _⟩; have h' := HS.out; generalize s.data.toList = l at h' ⊢; simp [okNode, h', hl0, HN.out, HM.out]; try omega)
    · have HS : Hid (s.data.toList.isEmpty = false) := Lib.hid (by rw [← Lib.toList_data]; cases h : s.toList with | nil => exact absurd h hs0 | cons x l => rfl)
      by_cases hl0 : len = 1
      all_goals
        go_enter Tryz.func21, Tryz.ntmps21
        go_wp2
        all_goals (go_ret; refine ⟨ret_bool ?_, (Below.refl _ _).alloc (Nat.le_refl _) _⟩; have h' := HS.out; generalize s.data.toList = l at h' ⊢; simp [okNode, h', hl0, HN.out, HM.out]; try omega)
  · go_enter Tryz.func21, Tryz.ntmps21
    go_wp2
    all_goals (go_ret; refine ⟨ret_bool ?_, (Below.refl _ _).alloc (Nat.le_refl _) _⟩; simp [okNode, hk0, hk1, hk2, hk3]; try omega)
end Go.Proofs.YtofboalgbgipoaaGreatDoor
