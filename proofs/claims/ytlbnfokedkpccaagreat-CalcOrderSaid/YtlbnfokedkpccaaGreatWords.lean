import Derived.RowKit
import Derived.IntWalk
import Derived.Laws.Entries
set_option linter.all false
namespace Go.Proofs.YtlbnfokedkpccaaGreat
open Go.RowKit (wrap32 wrap64)

theorem wrap32_in' (n : Int) (h : -2147483648 ≤ n ∧ n ≤ 2147483647) : wrap32 n = n := by unfold wrap32; omega
theorem wrap64_in' (n : Int) (h : -9223372036854775808 ≤ n ∧ n ≤ 9223372036854775807) : wrap64 n = n := by unfold wrap64; omega
theorem and_add_or' {w : Nat} (X Y : BitVec w) : (X &&& Y) + (X ||| Y) = X + Y := by
  have h1 : (X &&& Y) + (X &&& ~~~Y) = X := by
    rw [BitVec.add_eq_or_of_and_eq_zero]
    · ext i hi; simp; cases X[i] <;> simp
    · ext i hi; simp; cases X[i] <;> cases Y[i] <;> simp
  have h2 : (X &&& ~~~Y) + Y = X ||| Y := by
    rw [BitVec.add_eq_or_of_and_eq_zero]
    · ext i hi; simp; cases X[i] <;> cases Y[i] <;> rfl
    · ext i hi; simp <;> (cases X[i] <;> cases Y[i] <;> simp)
  rw [← h2, ← BitVec.add_assoc, h1]

def b (x : Int) : BitVec 32 := BitVec.ofInt 32 x
def In (x : Int) : Prop := -2147483648 ≤ x ∧ x ≤ 2147483647

theorem wrap32_b (x : Int) : wrap32 x = (b x).toInt := by
  unfold b wrap32
  rw [BitVec.toInt_ofInt, Int.bmod_def]
  simp only [Nat.reducePow]
  split <;> omega
theorem b_toInt (X : BitVec 32) : b X.toInt = X := BitVec.ofInt_toInt
theorem toInt_b {x : Int} (h : In x) : (b x).toInt = x := by rw [← wrap32_b]; exact wrap32_in' _ h
theorem in_toInt (X : BitVec 32) : In X.toInt := by
  have h1 := BitVec.toInt_lt (x := X)
  have h2 := BitVec.le_toInt X
  simp at h1 h2
  exact ⟨by omega, by omega⟩
theorem b_wrap (x : Int) : b (wrap32 x) = b x := by rw [wrap32_b, b_toInt]
theorem b_add (x y : Int) : b (x + y) = b x + b y := BitVec.ofInt_add ..
theorem b_mul (x y : Int) : b (x * y) = b x * b y := BitVec.ofInt_mul ..
theorem b_sub (x y : Int) : b (x - y) = b x - b y := by
  have : b x = b (x - y) + b y := by rw [← b_add]; congr 1; omega
  rw [this, BitVec.add_sub_cancel]
theorem wrap32_64 (x : Int) : wrap32 (wrap64 x) = wrap32 x := by unfold wrap32 wrap64; omega

/-- what 32 bits keep of an operation's result -/
def ans (op : Nat) (x y : Int) : Int :=
  match op with
  | 0 => wrap32 (x + y)
  | 1 => wrap32 (x - y)
  | 2 => wrap32 (x * y)
  | 3 => if y = 0 then 0 else wrap32 (x.fdiv y)
  | 4 => if y = 0 then 0 else wrap32 (x.fmod y)
  | 5 => min x y
  | 6 => max x y
  | 7 => (b x &&& b y).toInt
  | 8 => (b x ||| b y).toInt
  | 9 => (b x ^^^ b y).toInt
  | 10 => if x < y then 1 else 0
  | _ => if x = y then 1 else 0

theorem fmod_pos (x : Int) {y : Int} (h : 0 < y) : 0 ≤ x.fmod y ∧ x.fmod y < y := ⟨Int.fmod_nonneg_of_pos _ h, Int.fmod_lt_of_pos _ h⟩
theorem fmod_neg (x : Int) {y : Int} (h : y < 0) : x.fmod y ≤ 0 ∧ y < x.fmod y := by
  have h1 := Int.neg_fmod_neg (a := x) (b := -y)
  have h2 := fmod_pos (-x) (y := -y) (by omega)
  rw [Int.neg_neg] at h1
  have h3 : (-x).fmod (-y) = -(x.fmod y) := Int.neg_fmod_neg ..
  omega
theorem fmod_in {x y : Int} (hy : In y) (h : y ≠ 0) : In (x.fmod y) := by
  obtain ⟨h1, h2⟩ := hy
  rcases Int.lt_trichotomy y 0 with h3 | h3 | h3
  · have := fmod_neg x h3; exact ⟨by omega, by omega⟩
  · exact absurd h3 h
  · have := fmod_pos x h3; exact ⟨by omega, by omega⟩
theorem ans_mod {x y : Int} (hy : In y) (h : y ≠ 0) : ans 4 x y = x.fmod y := by
  simp only [ans, h, if_false]
  exact wrap32_in' _ (fmod_in hy h)

theorem ans_in {op : Nat} {x y : Int} (hx : In x) (hy : In y) : In (ans op x y) := by
  have hw : ∀ n, In (wrap32 n) := fun n => by rw [wrap32_b]; exact in_toInt _
  have h0 : In 0 := by simp [In]
  have h1 : In 1 := by simp [In]
  unfold ans
  split
  all_goals first | exact hw _ | exact in_toInt _ | (split <;> first | exact h0 | exact h1 | exact hw _) | (have := hx; have := hy; unfold In at *; omega)

theorem quot_rest {x y : Int} (hx : In x) (hy : In y) (h : y ≠ 0) : ans 0 (ans 2 (ans 3 x y) y) (ans 4 x y) = x := by
  rw [ans_mod hy h]
  simp only [ans, h, if_false]
  rw [wrap32_b, b_add, b_wrap, b_mul, b_wrap, ← b_mul, ← b_add, ← toInt_b hx]
  congr 2
  rw [toInt_b hx]
  have := Int.mul_fdiv_add_fmod x y
  rw [Int.mul_comm] at this
  exact this
theorem zero_div (x : Int) : ans 3 x 0 = 0 ∧ ans 4 x 0 = 0 := by simp [ans]
theorem swaps (x y : Int) (op : Nat) (h : op = 0 ∨ op = 2 ∨ op = 5 ∨ op = 6 ∨ op = 7 ∨ op = 8 ∨ op = 9 ∨ op = 11) : ans op x y = ans op y x := by
  rcases h with rfl | rfl | rfl | rfl | rfl | rfl | rfl | rfl <;> simp only [ans]
  · rw [Int.add_comm]
  · rw [Int.mul_comm]
  · omega
  · omega
  · rw [BitVec.and_comm]
  · rw [BitVec.or_comm]
  · rw [BitVec.xor_comm]
  · by_cases h : x = y
    · simp [h]
    · simp [h, Ne.symm h]
theorem sub_add {x y : Int} (hx : In x) : ans 0 (ans 1 x y) y = x := by
  simp only [ans]
  rw [wrap32_b, b_add, b_wrap, b_sub, BitVec.sub_add_cancel, toInt_b hx]
theorem xor_xor {x y : Int} (hx : In x) : ans 9 (ans 9 x y) y = x := by
  simp only [ans]
  rw [b_toInt, BitVec.xor_assoc, BitVec.xor_self, BitVec.xor_zero, toInt_b hx]
theorem and_or {x y : Int} : ans 0 (ans 7 x y) (ans 8 x y) = ans 0 x y := by
  simp only [ans]
  rw [wrap32_b, b_add, b_toInt, b_toInt, and_add_or', wrap32_b, b_add]
theorem one_of {x y : Int} : ans 10 x y + ans 10 y x + ans 11 x y = 1 := by
  simp only [ans]
  rcases Int.lt_trichotomy x y with h | h | h
  · simp [h, Int.ne_of_lt h, Int.lt_asymm h]
  · simp [h]
  · simp [h, Int.ne_of_gt h, Int.lt_asymm h]
theorem less_range {x y : Int} : 0 ≤ ans 10 x y ∧ ans 10 x y ≤ 1 ∧ 0 ≤ ans 11 x y ∧ ans 11 x y ≤ 1 := by
  simp only [ans]
  repeat' split
  all_goals omega
theorem less_one {x y : Int} : (ans 10 x y = 1) = (x < y) := by
  simp only [ans]; split <;> simp [*]
end Go.Proofs.YtlbnfokedkpccaaGreat
namespace Go.Proofs.YtlbnfokedkpccaaGreat
open Go.RowKit (wrap32 wrap64)
theorem trunc (x : Int) : (BitVec.ofInt 64 x).setWidth 32 = b x := by
  apply BitVec.eq_of_toNat_eq
  simp only [b, BitVec.toNat_setWidth, BitVec.toNat_ofInt]
  simp
  omega
theorem b_of_toInt (X : BitVec 64) : b X.toInt = X.setWidth 32 := by
  rw [← trunc, BitVec.ofInt_toInt]
theorem wrap_toNat (X : BitVec 64) : IntKind.i64.wrap X.toNat = X.toInt := by
  rw [IntKind.wrap_i64, BitVec.toInt_eq_toNat_cond]
  have := X.isLt
  split <;> omega
theorem and_64 (x y : Int) : wrap32 (bits .and .i64 x y) = ans 7 x y := by
  show wrap32 (IntKind.i64.wrap (((BitVec.ofInt 64 x) &&& (BitVec.ofInt 64 y)).toNat : Int)) = _
  rw [wrap_toNat, wrap32_b, b_of_toInt, BitVec.setWidth_and, trunc, trunc]; rfl
theorem or_64 (x y : Int) : wrap32 (bits .or .i64 x y) = ans 8 x y := by
  show wrap32 (IntKind.i64.wrap (((BitVec.ofInt 64 x) ||| (BitVec.ofInt 64 y)).toNat : Int)) = _
  rw [wrap_toNat, wrap32_b, b_of_toInt, BitVec.setWidth_or, trunc, trunc]; rfl
theorem xor_64 (x y : Int) : wrap32 (bits .xor .i64 x y) = ans 9 x y := by
  show wrap32 (IntKind.i64.wrap (((BitVec.ofInt 64 x) ^^^ (BitVec.ofInt 64 y)).toNat : Int)) = _
  rw [wrap_toNat, wrap32_b, b_of_toInt, BitVec.setWidth_xor, trunc, trunc]; rfl
end Go.Proofs.YtlbnfokedkpccaaGreat
namespace Go.Proofs.YtlbnfokedkpccaaGreat
theorem dvd_tdiv {x y : Int} : (x.tdiv y * y = x) ↔ y ∣ x := by
  constructor
  · intro h; exact ⟨x.tdiv y, by rw [Int.mul_comm]; exact h.symm⟩
  · intro h; exact Int.tdiv_mul_cancel h
theorem quot1 {x y : Int} (hy : y ≠ 0) (h : x.tdiv y * y ≠ x) (hs : (x < 0) ≠ (y < 0)) : x.fdiv y = x.tdiv y - 1 := by
  have hd : ¬ y ∣ x := fun e => h (dvd_tdiv.2 e)
  rw [Int.fdiv_eq_tdiv]
  have : (x < 0 ∧ ¬ y < 0) ∨ (¬ x < 0 ∧ y < 0) := by
    by_cases h1 : x < 0 <;> by_cases h2 : y < 0 <;> simp_all
  rcases this with ⟨h1, h2⟩ | ⟨h1, h2⟩
  · simp [hd, show ¬ 0 ≤ x by omega, show 0 ≤ y by omega]; omega
  · simp [hd, show 0 ≤ x by omega, show ¬ 0 ≤ y by omega]
theorem quot2 {x y : Int} (h : x.tdiv y * y = x) : x.fdiv y = x.tdiv y := by
  rw [Int.fdiv_eq_tdiv]; simp [dvd_tdiv.1 h]
theorem quot3 {x y : Int} (hs : (x < 0) = (y < 0)) : x.fdiv y = x.tdiv y := by
  rw [Int.fdiv_eq_tdiv]
  have : (x < 0 ∧ y < 0) ∨ (¬ x < 0 ∧ ¬ y < 0) := by
    by_cases h1 : x < 0 <;> by_cases h2 : y < 0 <;> simp_all
  rcases this with ⟨h1, h2⟩ | ⟨h1, h2⟩
  · simp [show ¬ 0 ≤ x by omega, show ¬ 0 ≤ y by omega, Int.sign_eq_neg_one_of_neg h2]
  · simp [show 0 ≤ x by omega, show 0 ≤ y by omega]
theorem tdiv_in {x y : Int} (hx : In x) (hy : y ≠ 0) : -2147483648 ≤ x.tdiv y ∧ x.tdiv y ≤ 2147483648 := by
  have h := Int.natAbs_tdiv_le_natAbs x y
  obtain ⟨h1, h2⟩ := hx
  omega
end Go.Proofs.YtlbnfokedkpccaaGreat
