/- Values made of numbers: Take, Str, Tag. -/
import Derived.Test.YtlbnfokedkpccaaGreatCall
import Derived.WalkLawsBesides
set_option linter.all false
namespace Go.Proofs.YtlbnfokedkpccaaGreat
open Go.RowKit Go.Shelf
attribute [local go_sem] Oper.semAt_some

/-- A row of numbers, as it lies. -/
def IsInts (n₀ : Nat) (W : World) (a : Option Addr) (len : Nat) (l : List Int) : Prop :=
  len = l.length ∧ l.length ≤ 140737488355328 ∧ ∀ (i : Nat) (x : Int), l[i]? = some x → ∃ b off, a = some ⟨b, off, none⟩ ∧ b < n₀ ∧ W.cell? ⟨b, off + i, none⟩ = some (.int .i64 x)
theorem IsInts.bel {n₀ : Nat} {A B : World} (h : Below n₀ A B) {a : Option Addr} {len : Nat} {l : List Int} (hl : IsInts n₀ A a len l) : IsInts n₀ B a len l :=
  ⟨hl.1, hl.2.1, fun i x hi => by obtain ⟨b, off, h1, h2, h3⟩ := hl.2.2 i x hi; exact ⟨b, off, h1, h2, (h.cell (p := ⟨b, _, none⟩) h2).trans h3⟩⟩
theorem IsInts.more {n₀ n₁ : Nat} {A : World} (h : n₀ ≤ n₁) {a : Option Addr} {len : Nat} {l : List Int} (hl : IsInts n₀ A a len l) : IsInts n₁ A a len l :=
  ⟨hl.1, hl.2.1, fun i x hi => by obtain ⟨b, off, h1, h2, h3⟩ := hl.2.2 i x hi; exact ⟨b, off, h1, by omega, h3⟩⟩

/-- Numbers, and how many were taken. -/
def streamV (a : Option Addr) (len cap : Nat) (at_ : Nat) : Value := .agg #[.slice a len cap, .int .i64 at_]

set_option maxRecDepth 100000 in
set_option maxHeartbeats 1000000 in
theorem Take_any (n₀ : Nat) (a : Option Addr) (len cap : Nat) (l : List Int) (at_ : Nat) (many : Int) (h1 : 1 ≤ many) (h2 : many ≤ 1000) (w : World) (hl : IsInts n₀ w a len l) (hn : n₀ ≤ w.heap.size) :
    Calls Tryz.prog 49 #[streamV a len cap at_, .int .i64 many] w fun e w' => (∃ (n : Int) (at' : Nat), 0 ≤ n ∧ n < many ∧ e = .returned (.tuple #[.int .i64 n, streamV a len cap at'])) ∧ Below w.heap.size w w' := by
  obtain ⟨rfl, hmx, hc⟩ := hl
  unfold streamV
  by_cases hat : (l.length : Int) ≤ at_
  · have hge : ((at_ : Int) ≥ (l.length : Int)) := hat
    go_enter Tryz.func49, Tryz.ntmps49
    go_wp2
    go_region_with (fail)
    all_goals
      go_wp2
      refine ⟨rfl, .tuple #[.int .i64 0, .agg #[.slice a l.length cap, .int .i64 at_]], ?_, ⟨0, at_, by omega, by omega, rfl⟩, ?_⟩
      · simp [results, Tryz.f49, go_sem]
      · exact (((Below.refl _ _).alloc (Nat.le_refl _) _).alloc (by simp) _).drew
  · have hlt : at_ < l.length := by omega
    obtain ⟨x, hx⟩ : ∃ x, l[at_]? = some x := ⟨l[at_], by rw [List.getElem?_eq_getElem]⟩
    obtain ⟨b, off, rfl, hb, hcell⟩ := hc at_ x hx
    have ha := Int.tmod_lt_of_pos x (show 0 < many by omega)
    have hb' := Int.lt_tmod_of_pos x (show 0 < many by omega)
    obtain ⟨len, hlen⟩ : ∃ len, l.length = len := ⟨_, rfl⟩
    rw [hlen] at hlt hmx hat ⊢
    have hB : Below w.heap.size w ((w.alloc (.cells #[.slice (some ⟨b, off, none⟩) len cap, .int .i64 at_] 59)).alloc (.cells #[.slice none 0 0, .int .i64 0] 59)) := ((Below.refl _ _).alloc (Nat.le_refl _) _).alloc (by simp) _
    have c0 := (hB.cell (p := ⟨b, off + at_, none⟩) (show b < w.heap.size by omega)).trans hcell
    have HB := Lib.hid hB
    clear hc hx hB hlen hb hn hcell hat
    go_enter Tryz.func49, Tryz.ntmps49
    go_wp2
    all_goals go_region_with (fail)
    all_goals go_wp2
    all_goals first
      | (refine ⟨rfl, .tuple #[.int .i64 (x.tmod many + many), .agg #[.slice (some ⟨b, off, none⟩) len cap, .int .i64 ((at_ + 1 : Nat) : Int)]], ?_, ⟨x.tmod many + many, at_ + 1, by omega, by omega, rfl⟩, (((Below.refl _ _).alloc (Nat.le_refl _) _).alloc (by simp) _).drew⟩)
      | (refine ⟨rfl, .tuple #[.int .i64 (x.tmod many), .agg #[.slice (some ⟨b, off, none⟩) len cap, .int .i64 ((at_ + 1 : Nat) : Int)]], ?_, ⟨x.tmod many, at_ + 1, by omega, by omega, rfl⟩, (((Below.refl _ _).alloc (Nat.le_refl _) _).alloc (by simp) _).drew⟩)
    all_goals
      simp [results, Tryz.f49, go_sem]
      rw [IntKind.wrap_i64]
      omega
end Go.Proofs.YtlbnfokedkpccaaGreat
