/- The order of values, as trees: it is one order. -/
import Derived.Test.YtofboalgbgipoaaGreatDoorValb
import Derived.Lib.Bytealg
import Derived.Lib.Small
set_option linter.all false
namespace Go.Proofs.YtofboalgbgipoaaGreatDoor

/-- The first one that says something. -/
def lex (u v : Int) : Int := if u = 0 then v else u
/-- What three comparisons have to do with each other. -/
def Trn (ab bc ac : Int) : Prop := (ab = 0 → ac = bc) ∧ (bc = 0 → ac = ab) ∧ (ab < 0 → bc < 0 → ac < 0) ∧ (0 < ab → 0 < bc → 0 < ac)
theorem Trn.lex {a b c a' b' c' : Int} (h : Trn a b c) (h' : Trn a' b' c') : Trn (lex a a') (lex b b') (lex c c') := by
  obtain ⟨h1, h2, h3, h4⟩ := h
  obtain ⟨h1', h2', h3', h4'⟩ := h'
  unfold Go.Proofs.YtofboalgbgipoaaGreatDoor.lex Trn
  refine ⟨fun h => ?_, fun h => ?_, fun h g => ?_, fun h g => ?_⟩ <;> (repeat' split at h) <;> (repeat' split at g) <;> (repeat' split) <;> omega
theorem Trn.le {a b c : Int} (h : Trn a b c) (h1 : a ≤ 0) (h2 : b ≤ 0) : c ≤ 0 := by
  obtain ⟨g1, g2, g3, g4⟩ := h
  rcases Int.lt_or_eq_of_le h1 with h1 | h1
  · rcases Int.lt_or_eq_of_le h2 with h2 | h2
    · have := g3 h1 h2; omega
    · have := g2 h2; omega
  · have := g1 h1; omega
theorem cmpI_trn (x y z : Int) : Trn (Lib.compareInt x y) (Lib.compareInt y z) (Lib.compareInt x z) := by
  unfold Lib.compareInt Trn
  refine ⟨fun h => ?_, fun h => ?_, fun h g => ?_, fun h g => ?_⟩ <;> (repeat' split at h) <;> (repeat' split at g) <;> (repeat' split) <;> omega
theorem cmpI_anti (x y : Int) : Lib.compareInt x y = -Lib.compareInt y x := by unfold Lib.compareInt; repeat' split <;> omega
theorem cmpI_zero (x y : Int) : Lib.compareInt x y = 0 ↔ x = y := by
  unfold Lib.compareInt
  constructor
  · intro h; repeat' split at h <;> omega
  · rintro rfl; simp
theorem cmpI_range (x y : Int) : -1 ≤ Lib.compareInt x y ∧ Lib.compareInt x y ≤ 1 := by unfold Lib.compareInt; repeat' split <;> omega
theorem cmpB_cons (a b : UInt8) (l m : List UInt8) : Lib.compareBytes (a :: l) (b :: m) = lex (Lib.compareInt a.toNat b.toNat) (Lib.compareBytes l m) := by
  unfold lex Lib.compareInt
  rw [Lib.compareBytes]
  simp only [UInt8.lt_iff_toNat_lt]
  by_cases h1 : a.toNat < b.toNat
  · simp [h1]
  · by_cases h2 : b.toNat < a.toNat
    · simp [h1, h2]
    · simp [h1, h2]
theorem cmpB_trn : ∀ (l m n : List UInt8), Trn (Lib.compareBytes l m) (Lib.compareBytes m n) (Lib.compareBytes l n)
  | [], [], [] => by simp [Lib.compareBytes, Trn]
  | [], [], _ :: _ => by simp [Lib.compareBytes, Trn]
  | [], _ :: _, [] => by simp [Lib.compareBytes, Trn]
  | [], b :: m, c :: n => by
    have h : ∀ z : Int, Trn (-1) z (-1) := fun z => ⟨by omega, by omega, by omega, by omega⟩
    exact h _
  | _ :: _, [], [] => by simp [Lib.compareBytes, Trn]
  | a :: l, [], c :: n => by
    have h : ∀ z : Int, Trn 1 (-1) z := fun z => ⟨by omega, by omega, by omega, by omega⟩
    exact h _
  | a :: l, b :: m, [] => by
    have h : ∀ z : Int, Trn z 1 1 := fun z => ⟨by omega, by omega, by omega, by omega⟩
    exact h _
  | a :: l, b :: m, c :: n => by
    rw [cmpB_cons, cmpB_cons, cmpB_cons]
    exact (cmpI_trn _ _ _).lex (cmpB_trn l m n)
theorem lex_anti {a b a' b' : Int} (h : a = -a') (h' : b = -b') : lex a b = -lex a' b' := by unfold lex; repeat' split <;> omega
theorem lex_zero {a b : Int} : lex a b = 0 ↔ a = 0 ∧ b = 0 := by unfold lex; split <;> omega
theorem lex_range {a b : Int} (h : -1 ≤ a ∧ a ≤ 1) (h' : -1 ≤ b ∧ b ≤ 1) : -1 ≤ lex a b ∧ lex a b ≤ 1 := by unfold lex; split <;> omega
theorem cmpB_anti : ∀ (l m : List UInt8), Lib.compareBytes l m = -Lib.compareBytes m l
  | [], [] => rfl
  | [], _ :: _ => rfl
  | _ :: _, [] => rfl
  | a :: l, b :: m => by rw [cmpB_cons, cmpB_cons]; exact lex_anti (cmpI_anti _ _) (cmpB_anti l m)
theorem cmpB_range : ∀ (l m : List UInt8), -1 ≤ Lib.compareBytes l m ∧ Lib.compareBytes l m ≤ 1
  | [], [] => by simp [Lib.compareBytes]
  | [], _ :: _ => by simp [Lib.compareBytes]
  | _ :: _, [] => by simp [Lib.compareBytes]
  | a :: l, b :: m => by rw [cmpB_cons]; exact lex_range (cmpI_range _ _) (cmpB_range l m)
theorem cmpB_zero : ∀ (l m : List UInt8), Lib.compareBytes l m = 0 ↔ l = m
  | [], [] => by simp [Lib.compareBytes]
  | [], _ :: _ => by simp [Lib.compareBytes]
  | _ :: _, [] => by simp [Lib.compareBytes]
  | a :: l, b :: m => by
    rw [cmpB_cons, lex_zero, cmpI_zero, cmpB_zero l m, List.cons.injEq]
    constructor
    · rintro ⟨h, h'⟩; exact ⟨UInt8.toNat_inj.1 (by omega), h'⟩
    · rintro ⟨rfl, rfl⟩; exact ⟨rfl, rfl⟩

mutual
/-- Which of two values is ahead. -/
def ordF : LT → LT → Int
  | .mk x l, .mk y m => lex (Lib.compareInt x.k y.k) (lex (Lib.compareInt x.n y.n) (lex (Lib.compareBytes x.s.data.toList y.s.data.toList) (ordL l m)))
def ordL : List LT → List LT → Int
  | [], [] => 0
  | [], _ :: _ => -1
  | _ :: _, [] => 1
  | a :: l, b :: m => lex (ordF a b) (ordL l m)
end
mutual
/-- Are two values the same? -/
def sameF : LT → LT → Bool
  | .mk x l, .mk y m => decide (x.k = y.k) && (decide (x.n = y.n) && (decide (x.s = y.s) && sameL l m))
def sameL : List LT → List LT → Bool
  | [], [] => true
  | [], _ :: _ => false
  | _ :: _, [] => false
  | a :: l, b :: m => sameF a b && sameL l m
end
mutual
theorem ordF_trn : ∀ (a b c : LT), Trn (ordF a b) (ordF b c) (ordF a c)
  | .mk x l, .mk y m, .mk z n => by
    simp only [ordF]
    exact (cmpI_trn _ _ _).lex ((cmpI_trn _ _ _).lex ((cmpB_trn _ _ _).lex (ordL_trn l m n)))
theorem ordL_trn : ∀ (a b c : List LT), Trn (ordL a b) (ordL b c) (ordL a c)
  | [], [], [] => by simp [ordL, Trn]
  | [], [], _ :: _ => by simp [ordL, Trn]
  | [], _ :: _, [] => by simp [ordL, Trn]
  | [], b :: m, c :: n => by
    have h : ∀ z : Int, Trn (-1) z (-1) := fun z => ⟨by omega, by omega, by omega, by omega⟩
    simp only [ordL]; exact h _
  | _ :: _, [], [] => by simp [ordL, Trn]
  | a :: l, [], c :: n => by
    have h : ∀ z : Int, Trn 1 (-1) z := fun z => ⟨by omega, by omega, by omega, by omega⟩
    simp only [ordL]; exact h _
  | a :: l, b :: m, [] => by
    have h : ∀ z : Int, Trn z 1 1 := fun z => ⟨by omega, by omega, by omega, by omega⟩
    simp only [ordL]; exact h _
  | a :: l, b :: m, c :: n => by
    simp only [ordL]
    exact (ordF_trn a b c).lex (ordL_trn l m n)
end
mutual
theorem ordF_anti : ∀ (a b : LT), ordF a b = -ordF b a
  | .mk x l, .mk y m => by simp only [ordF]; exact lex_anti (cmpI_anti _ _) (lex_anti (cmpI_anti _ _) (lex_anti (cmpB_anti _ _) (ordL_anti l m)))
theorem ordL_anti : ∀ (a b : List LT), ordL a b = -ordL b a
  | [], [] => by simp [ordL]
  | [], _ :: _ => by simp [ordL]
  | _ :: _, [] => by simp [ordL]
  | a :: l, b :: m => by simp only [ordL]; exact lex_anti (ordF_anti a b) (ordL_anti l m)
end
mutual
theorem ordF_range : ∀ (a b : LT), -1 ≤ ordF a b ∧ ordF a b ≤ 1
  | .mk x l, .mk y m => by simp only [ordF]; exact lex_range (cmpI_range _ _) (lex_range (cmpI_range _ _) (lex_range (cmpB_range _ _) (ordL_range l m)))
theorem ordL_range : ∀ (a b : List LT), -1 ≤ ordL a b ∧ ordL a b ≤ 1
  | [], [] => by simp [ordL]
  | [], _ :: _ => by simp [ordL]
  | _ :: _, [] => by simp [ordL]
  | a :: l, b :: m => by simp only [ordL]; exact lex_range (ordF_range a b) (ordL_range l m)
end
theorem str_eq (s u : ByteArray) : s.data.toList = u.data.toList ↔ s = u := by
  constructor
  · intro h
    cases s; cases u
    simp only at h
    congr
    exact Array.toList_inj.1 h
  · rintro rfl; rfl
mutual
theorem ordF_zero : ∀ (a b : LT), ordF a b = 0 ↔ sameF a b = true
  | .mk x l, .mk y m => by
    simp only [ordF, sameF, lex_zero, cmpI_zero, cmpB_zero, str_eq, ordL_zero l m, Bool.and_eq_true, decide_eq_true_eq]
theorem ordL_zero : ∀ (a b : List LT), ordL a b = 0 ↔ sameL a b = true
  | [], [] => by simp [ordL, sameL]
  | [], _ :: _ => by simp [ordL, sameL]
  | _ :: _, [] => by simp [ordL, sameL]
  | a :: l, b :: m => by simp only [ordL, sameL, lex_zero, ordF_zero a b, ordL_zero l m, Bool.and_eq_true]
end
end Go.Proofs.YtofboalgbgipoaaGreatDoor
