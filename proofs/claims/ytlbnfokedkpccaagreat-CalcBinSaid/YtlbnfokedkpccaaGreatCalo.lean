/- What an operation makes of two values, as the reference of this layer says it. -/
import Derived.Test.YtlbnfokedkpccaaGreatCaln
import Derived.Test.YtlbnfokedkpccaaGreatCall
set_option linter.all false
namespace Go.Proofs.YtlbnfokedkpccaaGreat
open Go.RowKit Go.Shelf
attribute [local go_sem] Oper.semAt_some

theorem ext_of {x : Int} (h : In x) : BitVec.ofInt 64 x = (b x).signExtend 64 := by
  apply BitVec.eq_of_toInt_eq
  rw [BitVec.toInt_signExtend_of_le (by omega), toInt_b h]
  have := h.1
  have := h.2
  exact BitVec.toInt_ofInt_eq_self (by omega) (by simp; omega) (by simp; omega)
theorem and_in {x y : Int} (hx : In x) (hy : In y) : bits .and .i64 x y = ans 7 x y := by
  show IntKind.i64.wrap (((BitVec.ofInt 64 x) &&& (BitVec.ofInt 64 y)).toNat : Int) = _
  rw [wrap_toNat, ext_of hx, ext_of hy, ← BitVec.signExtend_and, BitVec.toInt_signExtend_of_le (by omega)]; rfl
theorem or_in {x y : Int} (hx : In x) (hy : In y) : bits .or .i64 x y = ans 8 x y := by
  show IntKind.i64.wrap (((BitVec.ofInt 64 x) ||| (BitVec.ofInt 64 y)).toNat : Int) = _
  rw [wrap_toNat, ext_of hx, ext_of hy, ← BitVec.signExtend_or, BitVec.toInt_signExtend_of_le (by omega)]; rfl
theorem xor_in {x y : Int} (hx : In x) (hy : In y) : bits .xor .i64 x y = ans 9 x y := by
  show IntKind.i64.wrap (((BitVec.ofInt 64 x) ^^^ (BitVec.ofInt 64 y)).toNat : Int) = _
  rw [wrap_toNat, ext_of hx, ext_of hy, ← BitVec.signExtend_xor, BitVec.toInt_signExtend_of_le (by omega)]; rfl
theorem w64_32 (n : Int) : wrap64 (wrap32 n) = wrap32 n := by unfold wrap64 wrap32; omega

set_option maxHeartbeats 1000000 in
theorem Wrap_any (n : Int) (w : World) : Calls Tryz.prog 175 #[.int .i64 n] w fun e w' => e = .returned (.int .i64 (wrap32 n)) ∧ w' = w := by
  have h := w64_32 n
  go_enter Tryz.func175, Tryz.ntmps175
  go_wp2
  go_ret
  exact ⟨ret_int h, rfl⟩
set_option maxHeartbeats 1000000 in
theorem quot05_any (x y : Int) (hx : In x) (hy : In y) (w : World) : Calls Tryz.prog 176 #[.int .i64 x, .int .i64 y] w fun e w' => e = .returned (.int .i64 (ans 3 x y)) ∧ w' = w := by
  by_cases hy0 : y = 0
  · subst hy0
    clear hx hy
    go_enter Tryz.func176, Tryz.ntmps176
    go_wp2
    go_ret
    exact ⟨rfl, rfl⟩
  · have hq := tdiv_in hx hy0
    have hx1 := hx.1
    have hx2 := hx.2
    have hy1 := hy.1
    have hy2 := hy.2
    have h3 : ans 3 x y = wrap32 (x.fdiv y) := by simp [ans, hy0]
    rw [h3]
    clear h3
    obtain ⟨q, hqe⟩ : ∃ q, x.tdiv y = q := ⟨_, rfl⟩
    have hqm : -4611686018427387904 ≤ x.tdiv y * y ∧ x.tdiv y * y ≤ 4611686018427387904 := by
      have h1 : (x.tdiv y * y).natAbs ≤ x.natAbs := by
        rw [Int.natAbs_mul, Int.natAbs_tdiv]
        exact Nat.div_mul_le_self _ _
      omega
    have hq1 := hq.1
    have hq2 := hq.2
    have hm1 := hqm.1
    have hm2 := hqm.2
    clear hq hqm
    have HR : Hid (x.fdiv y = if x.tdiv y * y ≠ x ∧ (x < 0) ≠ (y < 0) then x.tdiv y - 1 else x.tdiv y) := Lib.hid (by
      by_cases hm : x.tdiv y * y = x
      · rw [if_neg (fun h => h.1 hm)]; exact quot2 hm
      · by_cases hs : (x < 0) = (y < 0)
        · rw [if_neg (fun h => h.2 hs)]; exact quot3 hs
        · rw [if_pos ⟨hm, hs⟩]; exact quot1 hy0 hm hs)
    rw [hqe] at HR hq1 hq2 hm1 hm2
    have hw : wrap64 (q * y) = q * y := by unfold wrap64; omega
    clear hx hy hx1 hx2 hy1 hy2
    go_enter Tryz.func176, Tryz.ntmps176
    go_wp2_with (go_at_call 175; refine (Wrap_any _ _).mono ?_; rintro e w' ⟨rfl, rfl⟩)
    all_goals
      go_ret
      refine ⟨ret_int ?_, rfl⟩
      rw [HR.out]
      by_cases hx0 : x < 0 <;> by_cases hy1 : y < 0 <;> simp_all <;> (try omega) <;> (try rw [if_pos (by omega)])
set_option maxHeartbeats 1000000 in
theorem Words_0 (x y : Int) (hx : In x) (hy : In y) (w : World) : Calls Tryz.prog 136 #[.int .i64 0, .int .i64 x, .int .i64 y] w fun e w' => e = .returned (.int .i64 (ans 0 x y)) ∧ w' = w := by
  have HX := Lib.hid (And.intro hx hy)
  clear hx hy
  go_enter Tryz.func136, Tryz.ntmps136
  go_wp2_with (first
    | (go_at_call 175; refine (Wrap_any _ _).mono ?_; rintro e w' ⟨rfl, rfl⟩))
  go_ret
  refine ⟨ret_int ?_, rfl⟩
  simp only [ans, wrap32_64]
set_option maxHeartbeats 1000000 in
theorem Words_1 (x y : Int) (hx : In x) (hy : In y) (w : World) : Calls Tryz.prog 136 #[.int .i64 1, .int .i64 x, .int .i64 y] w fun e w' => e = .returned (.int .i64 (ans 1 x y)) ∧ w' = w := by
  have HX := Lib.hid (And.intro hx hy)
  clear hx hy
  go_enter Tryz.func136, Tryz.ntmps136
  go_wp2_with (first
    | (go_at_call 175; refine (Wrap_any _ _).mono ?_; rintro e w' ⟨rfl, rfl⟩))
  go_ret
  refine ⟨ret_int ?_, rfl⟩
  simp only [ans, wrap32_64]
set_option maxHeartbeats 1000000 in
theorem Words_2 (x y : Int) (hx : In x) (hy : In y) (w : World) : Calls Tryz.prog 136 #[.int .i64 2, .int .i64 x, .int .i64 y] w fun e w' => e = .returned (.int .i64 (ans 2 x y)) ∧ w' = w := by
  have HX := Lib.hid (And.intro hx hy)
  clear hx hy
  go_enter Tryz.func136, Tryz.ntmps136
  go_wp2_with (first
    | (go_at_call 175; refine (Wrap_any _ _).mono ?_; rintro e w' ⟨rfl, rfl⟩))
  go_ret
  refine ⟨ret_int ?_, rfl⟩
  simp only [ans, wrap32_64]
set_option maxHeartbeats 1000000 in
theorem Words_3 (x y : Int) (hx : In x) (hy : In y) (w : World) : Calls Tryz.prog 136 #[.int .i64 3, .int .i64 x, .int .i64 y] w fun e w' => e = .returned (.int .i64 (ans 3 x y)) ∧ w' = w := by
  have HX := Lib.hid (And.intro hx hy)
  clear hx hy
  go_enter Tryz.func136, Tryz.ntmps136
  go_wp2_with (first
    | (go_at_call 176; refine (quot05_any _ _ HX.out.1 HX.out.2 _).mono ?_; rintro e w' ⟨rfl, rfl⟩))
  go_ret
  refine ⟨ret_int ?_, rfl⟩
  rfl
set_option maxHeartbeats 1000000 in
theorem Words_4 (x y : Int) (hx : In x) (hy : In y) (w : World) : Calls Tryz.prog 136 #[.int .i64 4, .int .i64 x, .int .i64 y] w fun e w' => e = .returned (.int .i64 (ans 4 x y)) ∧ w' = w := by
  have HX := Lib.hid (And.intro hx hy)
  clear hx hy
  by_cases hy0 : y = 0
  · subst hy0
    go_enter Tryz.func136, Tryz.ntmps136
    go_wp2
    go_ret
    exact ⟨rfl, rfl⟩
  · have HM : Hid (∀ r, r = wrap64 (x - wrap64 (y * ans 3 x y)) ∨ r = wrap64 (x - y * ans 3 x y) ∨ r = x - wrap64 (y * ans 3 x y) ∨ r = x - y * ans 3 x y → wrap32 r = ans 4 x y) := Lib.hid (by
      have h4 : ans 4 x y = wrap32 (x.fmod y) := by simp [ans, hy0]
      have h3 : ans 3 x y = wrap32 (x.fdiv y) := by simp [ans, hy0]
      rw [h4, h3]
      have hm := Int.mul_fdiv_add_fmod x y
      have e : x - y * x.fdiv y = x.fmod y := by omega
      have key : wrap32 (x - y * wrap32 (x.fdiv y)) = wrap32 (x.fmod y) := by
        rw [← e, wrap32_b, wrap32_b (x - y * x.fdiv y), b_sub, b_sub, b_mul, b_mul, b_wrap]
      intro r h
      rw [← key]
      obtain ⟨z, hz⟩ : ∃ z, y * wrap32 (x.fdiv y) = z := ⟨_, rfl⟩
      rw [hz] at h ⊢
      rcases h with rfl | rfl | rfl | rfl <;> unfold wrap32 <;> (try unfold wrap64) <;> omega)
    go_enter Tryz.func136, Tryz.ntmps136
    go_wp2_with (first
      | (go_at_call 176; refine (quot05_any _ _ HX.out.1 HX.out.2 _).mono ?_; rintro e w' ⟨rfl, rfl⟩)
      | (go_at_call 175; refine (Wrap_any _ _).mono ?_; rintro e w' ⟨rfl, rfl⟩))
    go_ret
    refine ⟨ret_int (HM.out _ ?_), rfl⟩
    first | exact .inl rfl | exact .inr (.inl rfl) | exact .inr (.inr (.inl rfl)) | exact .inr (.inr (.inr rfl))
set_option maxHeartbeats 1000000 in
theorem Words_5 (x y : Int) (hx : In x) (hy : In y) (w : World) : Calls Tryz.prog 136 #[.int .i64 5, .int .i64 x, .int .i64 y] w fun e w' => e = .returned (.int .i64 (ans 5 x y)) ∧ w' = w := by
  have HX := Lib.hid (And.intro hx hy)
  clear hx hy
  go_enter Tryz.func136, Tryz.ntmps136
  go_wp2
  go_ret
  refine ⟨ret_int ?_, rfl⟩
  rfl
set_option maxHeartbeats 1000000 in
theorem Words_6 (x y : Int) (hx : In x) (hy : In y) (w : World) : Calls Tryz.prog 136 #[.int .i64 6, .int .i64 x, .int .i64 y] w fun e w' => e = .returned (.int .i64 (ans 6 x y)) ∧ w' = w := by
  have HX := Lib.hid (And.intro hx hy)
  clear hx hy
  go_enter Tryz.func136, Tryz.ntmps136
  go_wp2
  go_ret
  refine ⟨ret_int ?_, rfl⟩
  rfl
set_option maxHeartbeats 1000000 in
theorem Words_7 (x y : Int) (hx : In x) (hy : In y) (w : World) : Calls Tryz.prog 136 #[.int .i64 7, .int .i64 x, .int .i64 y] w fun e w' => e = .returned (.int .i64 (ans 7 x y)) ∧ w' = w := by
  have HX := Lib.hid (And.intro hx hy)
  clear hx hy
  go_enter Tryz.func136, Tryz.ntmps136
  go_wp2
  go_ret
  refine ⟨ret_int ?_, rfl⟩
  exact and_in HX.out.1 HX.out.2
set_option maxHeartbeats 1000000 in
theorem Words_8 (x y : Int) (hx : In x) (hy : In y) (w : World) : Calls Tryz.prog 136 #[.int .i64 8, .int .i64 x, .int .i64 y] w fun e w' => e = .returned (.int .i64 (ans 8 x y)) ∧ w' = w := by
  have HX := Lib.hid (And.intro hx hy)
  clear hx hy
  go_enter Tryz.func136, Tryz.ntmps136
  go_wp2
  go_ret
  refine ⟨ret_int ?_, rfl⟩
  exact or_in HX.out.1 HX.out.2
set_option maxHeartbeats 1000000 in
theorem Words_9 (x y : Int) (hx : In x) (hy : In y) (w : World) : Calls Tryz.prog 136 #[.int .i64 9, .int .i64 x, .int .i64 y] w fun e w' => e = .returned (.int .i64 (ans 9 x y)) ∧ w' = w := by
  have HX := Lib.hid (And.intro hx hy)
  clear hx hy
  go_enter Tryz.func136, Tryz.ntmps136
  go_wp2
  go_ret
  refine ⟨ret_int ?_, rfl⟩
  exact xor_in HX.out.1 HX.out.2
theorem Words_all (op : Nat) (hop : op < 10) (x y : Int) (hx : In x) (hy : In y) (w : World) : Calls Tryz.prog 136 #[.int .i64 op, .int .i64 x, .int .i64 y] w fun e w' => e = .returned (.int .i64 (ans op x y)) ∧ w' = w := by
  have h : op = 0 ∨ op = 1 ∨ op = 2 ∨ op = 3 ∨ op = 4 ∨ op = 5 ∨ op = 6 ∨ op = 7 ∨ op = 8 ∨ op = 9 := by omega
  rcases h with rfl | rfl | rfl | rfl | rfl | rfl | rfl | rfl | rfl | rfl
  · exact Words_0 x y hx hy w
  · exact Words_1 x y hx hy w
  · exact Words_2 x y hx hy w
  · exact Words_3 x y hx hy w
  · exact Words_4 x y hx hy w
  · exact Words_5 x y hx hy w
  · exact Words_6 x y hx hy w
  · exact Words_7 x y hx hy w
  · exact Words_8 x y hx hy w
  · exact Words_9 x y hx hy w
set_option maxHeartbeats 1000000 in
theorem truth_any (t : Bool) (w : World) : Calls Tryz.prog 135 #[.bool t] w fun e w' => e = .returned (wordV (if t = true then 1 else 0)) ∧ Below w.heap.size w w' := by
  cases t
  all_goals
    go_enter Tryz.func135, Tryz.ntmps135
    go_wp2_with (go_at_call 55; refine (RInt_any _ _).mono ?_; rintro e W1 ⟨rfl, H1⟩; obtain ⟨⟨c0, c1, c2, c3⟩, ⟨d0, d1, d2, d3⟩⟩ := cells4 (blk H1 (World.alloc_heap_new w _)); unfold wordV)
    have hb : Below w.heap.size w W1 := ((Below.refl _ _).alloc (Nat.le_refl _) _).trans (H1.mono (by simp))
    refine ⟨rfl, wordV _, ?_, rfl, ?_⟩
    · simp [results, Tryz.f135, go_sem, wordV, c0, c1, c2, c3]
    · exact (((hb.setCell (Nat.le_refl _) _).setCell (Nat.le_refl _) _).setCell (Nat.le_refl _) _).setCell (Nat.le_refl _) _
end Go.Proofs.YtlbnfokedkpccaaGreat
