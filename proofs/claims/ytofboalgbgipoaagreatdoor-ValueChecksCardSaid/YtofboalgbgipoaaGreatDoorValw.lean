/- Which values are valid, and which of two is ahead, as the reference says it. -/
import Derived.Test.YtofboalgbgipoaaGreatDoorValt
set_option linter.all false
namespace Go.Proofs.YtofboalgbgipoaaGreatDoor
open Go.RowKit Go.Shelf
attribute [local go_sem] Oper.semAt_some

set_option maxHeartbeats 1000000 in
theorem Lies_any (n lo hi : Int) (w : World) :
    Calls Tryz.prog 66 #[.int .i64 n, .int .i64 lo, .int .i64 hi] w fun e w' => e = .returned (.bool (decide (lo ≤ n) && decide (n ≤ hi))) ∧ w' = w := by
  by_cases h1 : lo ≤ n
  · by_cases h2 : n ≤ hi
    all_goals
      go_enter Tryz.func66, Tryz.ntmps66
      go_wp2
      go_ret
      exact ⟨ret_bool (by simp [h1, h2]), rfl⟩
  · go_enter Tryz.func66, Tryz.ntmps66
    go_wp2
    go_ret
    exact ⟨ret_bool (by rw [decide_eq_false (show ¬ lo ≤ n by omega)]; rfl), rfl⟩
theorem take_all_snoc (s : ByteArray) (k : Nat) (h : k < s.size) : (s.data.toList.take (k + 1)).all okCh = ((s.data.toList.take k).all okCh && okCh s[k]) := by
  rw [take_snocB s k h, List.all_append]; simp
theorem take_all_false {s : ByteArray} {k : Nat} (h : (s.data.toList.take k).all okCh = false) : okText s.data.toList = false := by
  unfold okText
  have : s.data.toList.all okCh = false := by
    rw [← List.take_append_drop k s.data.toList, List.all_append, h]; rfl
  rw [this]; simp
set_option maxRecDepth 100000 in
set_option maxHeartbeats 1000000 in
theorem text_any (s : ByteArray) (w : World) (hs : s.size ≤ maxLen) :
    Calls Tryz.prog 67 #[.string s] w fun e w' => e = .returned (.bool (okText s.data.toList)) ∧ w' = w := by
  unfold maxLen at hs
  by_cases hl : s.size ≤ 100
  · go_enter Tryz.func67, Tryz.ntmps67
    go_wp2
    go_loop [3, 4] (fun b i => ∃ k : Nat, k ≤ s.size ∧ i = .int .i64 k ∧ ∃ q : Bool, b = .bool q ∧ (s.data.toList.take k).all okCh = q) (fun _ i => s.size - (intOf i).toNat)
    case atStart => exact ⟨0, Nat.zero_le _, rfl, _, rfl, by rw [decide_eq_true (by omega)]; rfl⟩
    case round =>
      obtain ⟨k, hk, rfl, q, rfl, hall⟩ := hrel
      have HA := Lib.hid hall
      clear hall
      cases q with
      | false =>
        go_wp2
        go_ret
        exact ⟨ret_bool (take_all_false HA.out).symm, rfl⟩
      | true =>
        by_cases hlt : k < s.size
        · obtain ⟨r, hr⟩ : ∃ r, (decide ((32 : Int) ≤ (s[k].toNat : Int)) && decide ((s[k].toNat : Int) ≤ 126)) = r := ⟨_, rfl⟩
          have hL := fun w => Lies_any (s[k].toNat : Int) 32 126 w
          rw [hr] at hL
          have hok : okCh s[k] = r := by
            rw [← hr]; unfold okCh
            congr 1 <;> (apply decide_eq_decide.2; omega)
          have HO := Lib.hid hok
          clear hr hok
          have hc1 : s[k].toNat < 256 := by have := s[k].toNat_lt; omega
          go_wp2_with (go_at_call 66; refine (hL _).mono ?_; clear hL; rintro e w' ⟨rfl, rfl⟩)
          go_round
          case rel => exact ⟨k + 1, by omega, by go_num, r, rfl, by rw [take_all_snoc s k hlt, HA.out, HO.out]; rfl⟩
          case measure => simp [intOf]; omega
        · go_wp2
          go_ret
          have hall : s.data.toList.all okCh = true := by
            have := HA.out
            rwa [List.take_of_length_le (by simp; omega)] at this
          exact ⟨ret_bool (by unfold okText; rw [hall, decide_eq_true (show s.data.toList.length ≤ 100 by rw [Array.length_toList]; exact hl)]; rfl), rfl⟩
  · go_enter Tryz.func67, Tryz.ntmps67
    go_wp2
    go_loop [3] (fun b => b = .bool false) (fun _ => 0)
    case atStart => exact congrArg Value.bool (decide_eq_false (by omega))
    case round =>
      subst hrel
      go_wp2
      go_ret
      exact ⟨ret_bool (by unfold okText; rw [decide_eq_false (show ¬ s.data.toList.length ≤ 100 by rw [Array.length_toList]; exact hl)]; rfl), rfl⟩

/-- A value whose nodes are valid, at most so many within one another. -/
def shapedF : Nat → LT → Bool
  | 0, _ => false
  | d + 1, .mk x l => okNode x.k x.n x.s.data.toList x.len && l.all (shapedF d)
/-- Is it valid? -/
def validF (T : LT) : Bool := shapedF 6 T && decide (T.cnt ≤ 60)
theorem okText_size {s : ByteArray} (h : okText s.data.toList = true) : s.size ≤ 100 := by
  unfold okText at h
  simp only [Bool.and_eq_true, decide_eq_true_eq] at h
  simpa using h.1
theorem okNode_small {k n : Int} {s : ByteArray} {len : Nat} (h : okNode k n s.data.toList len = true) : s.size ≤ 100 ∧ len ≤ 8 := by
  have e0 : s.data.toList.isEmpty = true → s.size ≤ 100 := fun h => by
    have := List.isEmpty_iff.1 h
    have h2 : s.data.toList.length = 0 := by rw [this]; rfl
    have h3 : s.size = 0 := by simpa using h2
    omega
  unfold okNode at h
  repeat' split at h
  all_goals (try simp only [Bool.and_eq_true, decide_eq_true_eq] at h)
  · exact ⟨e0 h.1.2, by omega⟩
  · exact ⟨okText_size h.1.2, by omega⟩
  · exact ⟨e0 h.1.2, h.2⟩
  · exact ⟨e0 h.1.2, by omega⟩
  · cases h
theorem shapedF_ok : ∀ (d : Nat) (T : LT), shapedF d T = true → OkV T ∧ T.ht ≤ d
  | 0, _, h => by simp [shapedF] at h
  | d + 1, .mk x l, h => by
    simp only [shapedF, Bool.and_eq_true, List.all_eq_true] at h
    obtain ⟨h1, h2⟩ := okNode_small h.1
    refine ⟨.mk _ _ h.1 h1 h2 (fun c hc => (shapedF_ok d c (h.2 c hc)).1), ?_⟩
    have := LT.htL_le (l := l) (N := d) (fun c hc => (shapedF_ok d c (h.2 c hc)).2)
    simp only [LT.ht]; omega
theorem shapedF_nodes : ∀ (d : Nat) (T : LT) (e : Int), e + d = 7 → ((LT.pre e T).all okAt = true ↔ shapedF d T = true)
  | 0, .mk x l, e, he => by
    simp only [LT.pre, List.all_cons, shapedF, okAt]
    rw [decide_eq_false (by show ¬ e ≤ 6; omega)]
    simp
  | d + 1, .mk x l, e, he => by
    have key : ∀ m : List LT, ((LT.preL (e + 1) m).all okAt = true ↔ m.all (shapedF d) = true) := by
      intro m
      induction m with
      | nil => simp [LT.preL]
      | cons t m ih =>
        simp only [LT.preL, List.all_append, List.all_cons, Bool.and_eq_true]
        rw [ih, shapedF_nodes d t (e + 1) (by omega)]
    simp only [LT.pre, List.all_cons, shapedF, Bool.and_eq_true]
    rw [key l]
    simp only [okAt, Bool.and_eq_true, decide_eq_true_eq]
    constructor
    · rintro ⟨⟨_, h1⟩, h2⟩; exact ⟨h1, h2⟩
    · rintro ⟨h1, h2⟩; exact ⟨⟨by omega, h1⟩, h2⟩
theorem okP_valid (T : LT) : okP (T.pre 1) ↔ validF T = true := by
  unfold okP validF
  rw [shapedF_nodes 6 T 1 (by omega), LT.pre_len, Bool.and_eq_true, decide_eq_true_eq]
  exact And.comm
theorem sizeF_valid (T : LT) : sizeF T = if validF T = true then (T.cnt : Int) else 0 := by
  unfold sizeF
  by_cases h : validF T = true
  · rw [if_pos h, if_pos ((okP_valid T).2 h), LT.pre_len]
  · rw [if_neg h, if_neg (fun h' => h ((okP_valid T).1 h'))]
theorem sizeF_zero (T : LT) : sizeF T = 0 ↔ validF T = false := by
  rw [sizeF_valid]
  cases h : validF T with
  | true => have := T.cnt_pos; simp; omega
  | false => simp
theorem validF_ok {T : LT} (h : validF T = true) : OkV T ∧ T.ht ≤ 6 ∧ T.cnt ≤ 60 := by
  unfold validF at h
  simp only [Bool.and_eq_true, decide_eq_true_eq] at h
  obtain ⟨h1, h2⟩ := shapedF_ok 6 T h.1
  exact ⟨h1, h2, h.2⟩
end Go.Proofs.YtofboalgbgipoaaGreatDoor
