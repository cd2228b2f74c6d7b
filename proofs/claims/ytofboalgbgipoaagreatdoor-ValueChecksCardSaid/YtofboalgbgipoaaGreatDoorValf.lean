/- Size, Check; how deep a value is; numbers that turn. -/
import Derived.Test.YtofboalgbgipoaaGreatDoorVale
set_option linter.all false
namespace Go.Proofs.YtofboalgbgipoaaGreatDoor
open Go.RowKit Go.Shelf
attribute [local go_sem] Oper.semAt_some

set_option maxRecDepth 100000 in
set_option maxHeartbeats 1000000 in
theorem Size_all (T : LT) (w : World) (hT : IsT w.heap.size w T) (hS : ∀ x ∈ T.pre 1, x.2.s.size ≤ maxLen ∧ x.2.len ≤ maxLen) :
    Calls Tryz.prog 5 #[T.node.val] w fun e w' => e = .returned (.tuple #[.int .i64 (sizeF T), .int .i64 (if sizeF T = 0 then 1 else 0)]) ∧ Below w.heap.size w w' := by
  obtain ⟨n, hn⟩ : ∃ n, sizeF T = n := ⟨_, rfl⟩
  obtain ⟨⟨xk, xn, xs, xa, xl, xc⟩, kids⟩ := T
  have hbV : Below w.heap.size w (w.alloc (.cells #[.int .i64 xk, .int .i64 xn, .string xs, .slice xa xl xc] 24)) := (Below.refl _ _).alloc (Nat.le_refl _) _
  have hcall := measure_any _ _ ((hT.bel hbV).more hbV.size) hS
  rw [hn] at hcall ⊢
  dsimp only [LT.node, Node.val] at hcall ⊢
  clear hT hS hn
  have HB := Lib.hid hbV
  clear hbV
  by_cases h0 : n = 0
  all_goals
    go_enter Tryz.func5, Tryz.ntmps5
    go_wp2_with (go_at_call 19; refine hcall.mono ?_; clear hcall; rintro e w' ⟨rfl, hb⟩)
    go_ret2
    refine ⟨?_, HB.out.trans (hb.mono HB.out.size)⟩
    simp [h0]

set_option maxRecDepth 100000 in
set_option maxHeartbeats 1000000 in
theorem Check_all (T : LT) (w : World) (hT : IsT w.heap.size w T) (hS : ∀ x ∈ T.pre 1, x.2.s.size ≤ maxLen ∧ x.2.len ≤ maxLen) :
    Calls Tryz.prog 11 #[T.node.val] w fun e w' => e = .returned (.int .i64 (if sizeF T = 0 then 1 else 0)) ∧ Below w.heap.size w w' := by
  obtain ⟨n, hn⟩ : ∃ n, sizeF T = n := ⟨_, rfl⟩
  obtain ⟨⟨xk, xn, xs, xa, xl, xc⟩, kids⟩ := T
  have hbV : Below w.heap.size w (w.alloc (.cells #[.int .i64 xk, .int .i64 xn, .string xs, .slice xa xl xc] 24)) := (Below.refl _ _).alloc (Nat.le_refl _) _
  have hcall := Size_all _ _ ((hT.bel hbV).more hbV.size) hS
  rw [hn] at hcall ⊢
  dsimp only [LT.node, Node.val] at hcall ⊢
  clear hT hS hn
  obtain ⟨r, hr⟩ : ∃ r : Int, (if n = 0 then 1 else 0) = r := ⟨_, rfl⟩
  rw [hr] at hcall ⊢
  clear hr
  have HB := Lib.hid hbV
  clear hbV
  go_enter Tryz.func11, Tryz.ntmps11
  go_wp2_with (go_at_call 5; refine hcall.mono ?_; clear hcall; rintro e w' ⟨rfl, hb⟩)
  go_ret
  exact ⟨rfl, HB.out.trans (hb.mono HB.out.size)⟩

theorem Size_any (T : LT) (_ : T.ht ≤ 100000000000) (w : World) (hT : IsT w.heap.size w T) (hS : ∀ x ∈ T.pre 1, x.2.s.size ≤ maxLen ∧ x.2.len ≤ maxLen) :
    Calls Tryz.prog 5 #[T.node.val] w fun e w' => e = .returned (.tuple #[.int .i64 (sizeF T), .int .i64 (if sizeF T = 0 then 1 else 0)]) ∧ Below w.heap.size w w' := Size_all T w hT hS
theorem Check_any (T : LT) (_ : T.ht ≤ 100000000000) (w : World) (hT : IsT w.heap.size w T) (hS : ∀ x ∈ T.pre 1, x.2.s.size ≤ maxLen ∧ x.2.len ≤ maxLen) :
    Calls Tryz.prog 11 #[T.node.val] w fun e w' => e = .returned (.int .i64 (if sizeF T = 0 then 1 else 0)) ∧ Below w.heap.size w w' := Check_all T w hT hS
/-- A number, turned. -/
def turnF (n many : Int) : Int := n % many
theorem turnF_pos {n m : Int} (hm : 0 < m) (h : 0 ≤ n.tmod m) : turnF n m = n.tmod m := by
  unfold turnF
  rw [Int.tmod_eq_emod] at h ⊢
  have h1 := Int.emod_lt_of_pos n hm
  split at h <;> rename_i hc
  · simp [hc]
  · omega
theorem turnF_neg {n m : Int} (hm : 0 < m) (h : n.tmod m < 0) : turnF n m = n.tmod m + m := by
  unfold turnF
  rw [Int.tmod_eq_emod] at h ⊢
  have h1 := Int.emod_nonneg n (show m ≠ 0 by omega)
  split at h <;> rename_i hc
  · omega
  · simp [hc]; omega
theorem turnF_lt (n : Int) {m : Int} (hm : 0 < m) : 0 ≤ turnF n m ∧ turnF n m < m := ⟨Int.emod_nonneg n (by omega), Int.emod_lt_of_pos n hm⟩
set_option maxRecDepth 100000 in
set_option maxHeartbeats 1000000 in
theorem Turn_any (n many : Int) (h0 : 1 ≤ many) (h1 : many ≤ 4611686018427387904) (w : World) :
    Calls Tryz.prog 59 #[.int .i64 n, .int .i64 many] w fun e w' => e = .returned (.int .i64 (turnF n many)) ∧ w' = w := by
  go_enter Tryz.func59, Tryz.ntmps59
  have ha := Int.tmod_lt_of_pos n (show 0 < many by omega)
  have hb := Int.lt_tmod_of_pos n (show 0 < many by omega)
  go_wp2
  · go_ret
    refine ⟨?_, rfl⟩
    rw [turnF_neg (by omega) (by assumption)]
    rfl
  · go_ret
    refine ⟨?_, rfl⟩
    rw [turnF_pos (by omega) (by assumption)]
    rfl

/-- A row of numbers, as it lies. -/
def IsInts (n₀ : Nat) (W : World) (a : Option Addr) (len : Nat) (l : List Int) : Prop :=
  len = l.length ∧ l.length ≤ 140737488355328 ∧ ∀ (i : Nat) (x : Int), l[i]? = some x → ∃ b off, a = some ⟨b, off, none⟩ ∧ b < n₀ ∧ W.cell? ⟨b, off + i, none⟩ = some (.int .i64 x)
theorem IsInts.bel {n₀ : Nat} {A B : World} (h : Below n₀ A B) {a : Option Addr} {len : Nat} {l : List Int} (hl : IsInts n₀ A a len l) : IsInts n₀ B a len l :=
  ⟨hl.1, hl.2.1, fun i x hi => by obtain ⟨b, off, h1, h2, h3⟩ := hl.2.2 i x hi; exact ⟨b, off, h1, h2, (h.cell (p := ⟨b, _, none⟩) h2).trans h3⟩⟩
theorem IsInts.more {n₀ n₁ : Nat} {A : World} (h : n₀ ≤ n₁) {a : Option Addr} {len : Nat} {l : List Int} (hl : IsInts n₀ A a len l) : IsInts n₁ A a len l :=
  ⟨hl.1, hl.2.1, fun i x hi => by obtain ⟨b, off, h1, h2, h3⟩ := hl.2.2 i x hi; exact ⟨b, off, h1, by omega, h3⟩⟩
/-- The number at a place of a list, round and round. -/
def nthF (l : List Int) (at_ : Int) : Int := l.getD (turnF at_ l.length).toNat 0
set_option maxRecDepth 100000 in
set_option maxHeartbeats 1000000 in
theorem Nth_any (n₀ : Nat) (a : Option Addr) (len cap : Nat) (l : List Int) (at_ : Int) (w : World) (hl : IsInts n₀ w a len l) :
    Calls Tryz.prog 60 #[.slice a len cap, .int .i64 at_] w fun e w' => e = .returned (.int .i64 (nthF l at_)) ∧ w' = w := by
  obtain ⟨rfl, hmx, hc⟩ := hl
  by_cases h0 : l.length = 0
  · go_enter Tryz.func60, Tryz.ntmps60
    go_wp2
    go_ret
    obtain rfl : l = [] := List.eq_nil_of_length_eq_zero h0
    exact ⟨rfl, rfl⟩
  · have hT := Turn_any at_ l.length (by omega) (by omega)
    have ht := turnF_lt at_ (m := l.length) (by omega)
    have hv : nthF l at_ = l.getD (turnF at_ l.length).toNat 0 := rfl
    obtain ⟨t, htn⟩ : ∃ t : Nat, turnF at_ l.length = (t : Int) := ⟨(turnF at_ l.length).toNat, by omega⟩
    rw [htn] at hT ht hv
    obtain ⟨x, hx⟩ : ∃ x, l[t]? = some x := ⟨l[t]'(by omega), by rw [List.getElem?_eq_getElem]⟩
    obtain ⟨b, off, rfl, hb, hcell⟩ := hc t x hx
    have hv' : nthF l at_ = x := by rw [hv, Int.toNat_natCast]; simp [hx]
    rw [hv']
    clear hv hv' htn hx hc
    obtain ⟨len, hlen⟩ : ∃ len, l.length = len := ⟨_, rfl⟩
    rw [hlen] at hT ht h0 ⊢
    have htl : t < len := by omega
    have hlp : 0 < len := by omega
    clear ht hmx hlen h0 hb
    go_enter Tryz.func60, Tryz.ntmps60
    go_wp2_with (go_at_call 59; refine (hT _).mono ?_; clear hT; rintro e w' ⟨rfl, rfl⟩)
    go_ret
    exact ⟨rfl, rfl⟩
end Go.Proofs.YtofboalgbgipoaaGreatDoor
