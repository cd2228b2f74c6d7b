/- Operations on two words, one by one: what they make, of which 32 bits are kept. -/
import Derived.Test.YtlbnfokedkpccaaGreatCala
import Derived.Test.YtlbnfokedkpccaaGreatWords
import Derived.Laws.Entries
set_option linter.all false
namespace Go.Proofs.YtlbnfokedkpccaaGreat
open Go.RowKit Go.Shelf
attribute [local go_sem] Oper.semAt_some

/-- What an operation makes: a number of which so much is kept. -/
def Op1 (K : FuncId) (op : Nat) (x y : Int) : Prop := ∀ w : World, Calls Tryz.prog K #[.int .i64 x, .int .i64 y] w fun e w' => ∃ r : Int, e = .returned (.int .i64 r) ∧ wrap32 r = ans op x y ∧ w' = w

set_option maxHeartbeats 1000000 in
theorem op_add (x y : Int) (hx : In x) (hy : In y) : Op1 162 0 x y := by
  intro w
  have HX := Lib.hid (And.intro hx hy)
  clear hx hy
  go_enter Tryz.func162, Tryz.ntmps162
  go_wp2
  go_ret
  refine ⟨_, rfl, ?_, rfl⟩
  simp only [ans, wrap32_64]
set_option maxHeartbeats 1000000 in
theorem op_sub (x y : Int) (hx : In x) (hy : In y) : Op1 163 1 x y := by
  intro w
  have HX := Lib.hid (And.intro hx hy)
  clear hx hy
  go_enter Tryz.func163, Tryz.ntmps163
  go_wp2
  go_ret
  refine ⟨_, rfl, ?_, rfl⟩
  simp only [ans, wrap32_64]
set_option maxHeartbeats 1000000 in
theorem op_mul (x y : Int) (hx : In x) (hy : In y) : Op1 164 2 x y := by
  intro w
  have HX := Lib.hid (And.intro hx hy)
  clear hx hy
  go_enter Tryz.func164, Tryz.ntmps164
  go_wp2
  go_ret
  refine ⟨_, rfl, ?_, rfl⟩
  simp only [ans, wrap32_64]
set_option maxHeartbeats 1000000 in
theorem op_and (x y : Int) (hx : In x) (hy : In y) : Op1 169 7 x y := by
  intro w
  have HX := Lib.hid (And.intro hx hy)
  clear hx hy
  go_enter Tryz.func169, Tryz.ntmps169
  go_wp2
  go_ret
  exact ⟨_, rfl, and_64 x y, rfl⟩
set_option maxHeartbeats 1000000 in
theorem op_or (x y : Int) (hx : In x) (hy : In y) : Op1 170 8 x y := by
  intro w
  have HX := Lib.hid (And.intro hx hy)
  clear hx hy
  go_enter Tryz.func170, Tryz.ntmps170
  go_wp2
  go_ret
  exact ⟨_, rfl, or_64 x y, rfl⟩
set_option maxHeartbeats 1000000 in
theorem op_xor (x y : Int) (hx : In x) (hy : In y) : Op1 171 9 x y := by
  intro w
  have HX := Lib.hid (And.intro hx hy)
  clear hx hy
  go_enter Tryz.func171, Tryz.ntmps171
  go_wp2
  go_ret
  exact ⟨_, rfl, xor_64 x y, rfl⟩
set_option maxHeartbeats 1000000 in
theorem op_min (x y : Int) (hx : In x) (hy : In y) : Op1 167 5 x y := by
  intro w
  have hw : wrap32 (min x y) = ans 5 x y := wrap32_in' _ (by unfold In at *; omega)
  have HW := Lib.hid hw
  clear hx hy hw
  go_enter Tryz.func167, Tryz.ntmps167
  go_wp2
  go_ret
  refine ⟨_, rfl, ?_, rfl⟩
  rw [← HW.out]
set_option maxHeartbeats 1000000 in
theorem op_max (x y : Int) (hx : In x) (hy : In y) : Op1 168 6 x y := by
  intro w
  have hw : wrap32 (max x y) = ans 6 x y := wrap32_in' _ (by unfold In at *; omega)
  have HW := Lib.hid hw
  clear hx hy hw
  go_enter Tryz.func168, Tryz.ntmps168
  go_wp2
  go_ret
  refine ⟨_, rfl, ?_, rfl⟩
  rw [← HW.out]

set_option maxHeartbeats 1000000 in
theorem op_less (x y : Int) : Op1 172 10 x y := by
  intro w
  by_cases h : x < y
  all_goals
    go_enter Tryz.func172, Tryz.ntmps172
    go_wp2
    go_ret
    exact ⟨_, rfl, by simp [ans, h, wrap32], rfl⟩
set_option maxHeartbeats 1000000 in
theorem op_same (x y : Int) : Op1 174 11 x y := by
  intro w
  by_cases h : x = y
  all_goals
    go_enter Tryz.func174, Tryz.ntmps174
    go_wp2
    go_ret
    exact ⟨_, rfl, by simp [ans, h, wrap32], rfl⟩
set_option maxHeartbeats 1000000 in
theorem quotient_any (x y : Int) (hx : In x) (hy : In y) (w : World) : Calls Tryz.prog 165 #[.int .i64 x, .int .i64 y] w fun e w' => e = .returned (.int .i64 (if y = 0 then 0 else x.fdiv y)) ∧ w' = w := by
  by_cases hy0 : y = 0
  · subst hy0
    clear hx hy
    go_enter Tryz.func165, Tryz.ntmps165
    go_wp2
    go_ret
    exact ⟨rfl, rfl⟩
  · have hq := tdiv_in hx hy0
    have hx1 := hx.1
    have hx2 := hx.2
    have hy1 := hy.1
    have hy2 := hy.2
    rw [if_neg hy0]
    obtain ⟨q, hqe⟩ : ∃ q, x.tdiv y = q := ⟨_, rfl⟩
    have hqm : -4611686018427387904 ≤ x.tdiv y * y ∧ x.tdiv y * y ≤ 4611686018427387904 := by
      have h1 : (x.tdiv y * y).natAbs ≤ x.natAbs := by
        rw [Int.natAbs_mul, Int.natAbs_tdiv]
        exact Nat.div_mul_le_self _ _
      omega
    have hq1 := hq.1
    have hq2 := hq.2
    have hm1 := hqm.1
    have hm2 := hqm.2
    clear hq hqm
    have HR : Hid (x.fdiv y = if x.tdiv y * y ≠ x ∧ (x < 0) ≠ (y < 0) then x.tdiv y - 1 else x.tdiv y) := Lib.hid (by
      by_cases hm : x.tdiv y * y = x
      · rw [if_neg (fun h => h.1 hm)]; exact quot2 hm
      · by_cases hs : (x < 0) = (y < 0)
        · rw [if_neg (fun h => h.2 hs)]; exact quot3 hs
        · rw [if_pos ⟨hm, hs⟩]; exact quot1 hy0 hm hs)
    rw [hqe] at HR hq1 hq2 hm1 hm2
    have hw : wrap64 (q * y) = q * y := by unfold wrap64; omega
    clear hx hy hx1 hx2 hy1 hy2
    go_enter Tryz.func165, Tryz.ntmps165
    go_wp2
    all_goals
      go_ret
      refine ⟨ret_int ?_, rfl⟩
      rw [HR.out]
      by_cases hx0 : x < 0 <;> by_cases hy1 : y < 0 <;> simp_all <;> (try omega)
set_option maxHeartbeats 1000000 in
theorem op_div (x y : Int) (hx : In x) (hy : In y) : Op1 165 3 x y := by
  intro w
  refine (quotient_any x y hx hy w).mono ?_
  rintro e w' ⟨rfl, rfl⟩
  refine ⟨_, rfl, ?_, rfl⟩
  by_cases h : y = 0
  · simp [ans, h, wrap32]
  · simp [ans, h]
set_option maxHeartbeats 1000000 in
theorem op_mod (x y : Int) (hx : In x) (hy : In y) : Op1 166 4 x y := by
  intro w
  have hc := quotient_any x y hx hy
  by_cases hy0 : y = 0
  · subst hy0
    clear hx hy hc
    go_enter Tryz.func166, Tryz.ntmps166
    go_wp2
    go_ret
    exact ⟨_, rfl, by simp [ans, wrap32], rfl⟩
  · rw [if_neg hy0] at hc
    have hm := Int.mul_fdiv_add_fmod x y
    have HM : Hid (∀ r, r = wrap64 (x - wrap64 (y * x.fdiv y)) ∨ r = wrap64 (x - y * x.fdiv y) ∨ r = x - wrap64 (y * x.fdiv y) ∨ r = x - y * x.fdiv y → wrap32 r = ans 4 x y) := Lib.hid (by
      have h4 : ans 4 x y = wrap32 (x.fmod y) := by simp [ans, hy0]
      rw [h4]
      have e : x - y * x.fdiv y = x.fmod y := by omega
      intro r h
      rw [← e]
      obtain ⟨z, hz⟩ : ∃ z, y * x.fdiv y = z := ⟨_, rfl⟩
      rw [hz] at h ⊢
      rcases h with rfl | rfl | rfl | rfl <;> unfold wrap32 <;> (try unfold wrap64) <;> omega)
    clear hx hy hm
    obtain ⟨q, hq⟩ : ∃ q, x.fdiv y = q := ⟨_, rfl⟩
    rw [hq] at hc HM
    clear hq
    go_enter Tryz.func166, Tryz.ntmps166
    go_wp2_with (go_at_call 165; refine (hc _).mono ?_; rintro e w' ⟨rfl, rfl⟩)
    go_ret
    refine ⟨_, rfl, HM.out _ ?_, rfl⟩
    first | exact .inl rfl | exact .inr (.inl rfl) | exact .inr (.inr (.inl rfl)) | exact .inr (.inr (.inr rfl))
end Go.Proofs.YtlbnfokedkpccaaGreat
