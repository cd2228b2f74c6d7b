/- Values made of numbers: ValueOf at the type of texts. -/
import Derived.Test.YtlbnfokedkpccaaGreatOrdd
import Derived.Deep.RegionHeld3
set_option linter.all false
namespace Go.Proofs.YtlbnfokedkpccaaGreat
open Go.RowKit Go.Shelf
attribute [local go_sem] Oper.semAt_some

def texts5 : List ByteArray := [⟨#[]⟩, ⟨#[97]⟩, ⟨#[98]⟩, ⟨#[97, 98]⟩, ⟨#[98, 97]⟩]
set_option maxRecDepth 100000 in
set_option maxHeartbeats 2000000 in
theorem ValueOf_text (n₀ : Nat) (ta : Option Addr) (tl tc : Nat) (a : Option Addr) (len cap : Nat) (l : List Int) (at_ : Nat) (w : World) (hl : IsInts n₀ w a len l) (hn : n₀ ≤ w.heap.size) :
    Calls Tryz.prog 50 #[.agg #[.int .i64 1, .slice ta tl tc], streamV a len cap at_] w fun e w' => (∃ (s : ByteArray) (at' : Nat), s ∈ texts5 ∧ e = .returned (.tuple #[Node.val ⟨1, 0, s, none, 0, 0⟩, streamV a len cap at'])) ∧ Below w.heap.size w w' := by
  have HT : Hid (∀ W, Below w.heap.size w W → Calls Tryz.prog 49 #[.agg #[.slice a len cap, .int .i64 at_], .int .i64 5] W fun e w' => ∃ (n : Int) (at' : Nat), e = .returned (.tuple #[.int .i64 n, .agg #[.slice a len cap, .int .i64 at']]) ∧ Hid ((0 ≤ n ∧ n < 5) ∧ Below W.heap.size W w')) := Lib.hid fun W hW =>
    (Take_any n₀ a len cap l at_ 5 (by omega) (by omega) W (hl.bel (hW.mono hn)) (by have := hW.size; omega)).mono fun e w' h => by
      obtain ⟨⟨n, at', h0, h1, he⟩, hb⟩ := h
      exact ⟨n, at', he, Lib.hid ⟨⟨h0, h1⟩, hb⟩⟩
  unfold streamV
  clear hl hn
  have HB := Lib.hid (boxes w #[.int .i64 1, .slice ta tl tc] #[.slice a len cap, .int .i64 at_] #[.int .i64 0, .int .i64 0, .string ⟨#[]⟩, .slice none 0 0] #[.slice none 0 0, .int .i64 0] 36 59 44 59)
  go_enter Tryz.func50, Tryz.ntmps50
  go_wp2_with (go_at_call 49; refine (HT.out _ HB.out.1).mono ?_; rintro e W1 ⟨n, at', rfl, H1⟩; have K1 := Lib.hid (HB.out.1.trans (H1.out.2.mono HB.out.1.size)); have L1 := Lib.hid (And.intro (blk H1.out.2 HB.out.2.2.2.1) (blk H1.out.2 HB.out.2.2.2.2)))
  have x4 := blk (Lib.hid ((Below.refl W1.heap.size W1).alloc (Nat.le_refl _) (.cells #[.slice a len cap, .int .i64 at'] 59))).out L1.out.1
  have x5 := blk (Lib.hid ((Below.refl W1.heap.size W1).alloc (Nat.le_refl _) (.cells #[.slice a len cap, .int .i64 at'] 59))).out L1.out.2
  have x7 := World.alloc_heap_new W1 (.cells #[.slice a len cap, .int .i64 at'] 59)
  have x0 : Below w.heap.size w (W1.alloc (.cells #[.slice a len cap, .int .i64 at'] 59)) := K1.out.alloc K1.out.size _
  obtain ⟨W2, hW2⟩ : ∃ W2, W1.alloc (.cells #[.slice a len cap, .int .i64 at'] 59) = W2 := ⟨_, rfl⟩
  rw [hW2] at x4 x5 x7 x0 ⊢
  have N1 := H1.out.1
  obtain ⟨b7, hb7⟩ : ∃ b7, W1.heap.size = b7 := ⟨_, rfl⟩
  have hge : w.heap.size + 4 ≤ b7 := by
    have h1 := H1.out.2.size
    simp only [World.size_alloc] at h1
    omega
  have q1 : b7 ≠ w.heap.size + 1 + 1 := by omega
  have q2 : b7 ≠ w.heap.size + 1 + 1 + 1 := by omega
  have q3 : w.heap.size + 1 + 1 ≠ b7 := by omega
  have q4 : w.heap.size + 1 + 1 + 1 ≠ b7 := by omega
  rw [hb7] at x7 ⊢
  obtain ⟨⟨a0, a1, a2, a3⟩, b0, b1, b2, b3⟩ := cells4 x4
  obtain ⟨⟨c0, c1⟩, c2, c3⟩ := cells2 x5
  obtain ⟨⟨d0, d1⟩, _⟩ := cells2 x7
  have X := Lib.hid (And.intro x0 (And.intro x4 (And.intro x5 x7)))
  clear x0 x4 x5 x7 hW2 hb7 H1 K1 L1 HT
  have hn5 : n = 0 ∨ n = 1 ∨ n = 2 ∨ n = 3 ∨ n = 4 := by omega
  clear N1
  have hb72 : b7 < W2.heap.size := (Array.getElem?_eq_some_iff.1 X.out.2.2.2).1
  have d0a : ∀ o, (W2.alloc o).cell? _ = _ := fun o => Below.cell_al o d0
  have d1a : ∀ o, (W2.alloc o).cell? _ = _ := fun o => Below.cell_al o d1
  rcases hn5 with rfl | rfl | rfl | rfl | rfl
  · go_region_with (go_at_call 38; refine (RStr_any _ _).mono ?_; dsimp only [Node.val]; rintro e W3 ⟨rfl, H3⟩; have K3 : Below W2.heap.size W2 W3 := (by first | exact ((Below.refl _ _).alloc (Nat.le_refl _) _).trans (H3.mono (by simp)) | exact ((((Below.refl _ _).alloc (Nat.le_refl _) _)).drew).trans (H3.mono (by simp)) | exact ((((Below.refl _ _).drew).alloc (Nat.le_refl _) _)).trans (H3.mono (by simp)) | exact (((((Below.refl _ _).drew).alloc (Nat.le_refl _) _)).drew).trans (H3.mono (by simp))); obtain ⟨⟨a0', a1', a2', a3'⟩, b0', b1', b2', b3'⟩ := cells4 (blk K3 X.out.2.1); obtain ⟨⟨c0', c1'⟩, c2', c3'⟩ := cells2 (blk K3 X.out.2.2.1); obtain ⟨⟨d0', d1'⟩, _⟩ := cells2 (blk K3 X.out.2.2.2); have HK3 := Lib.hid K3; clear K3 H3)
    all_goals
      go_wp2
      refine ⟨rfl, .tuple #[Node.val ⟨1, 0, ⟨#[]⟩, none, 0, 0⟩, .agg #[.slice a len cap, .int .i64 at']], ?_, ⟨⟨#[]⟩, at', by simp [texts5], rfl⟩, ?_⟩
      · simp [results, Tryz.f50, go_sem, Node.val, a0', a1', a2', a3', c0', c1']
      · have hK := X.out.1.trans (HK3.out.mono X.out.1.size)
        first
          | exact (((((hK.setCell (by simp <;> omega) _).setCell (by simp <;> omega) _).setCell (by simp <;> omega) _).setCell (by simp <;> omega) _).setCell (by simp <;> omega) _).setCell (by simp <;> omega) _
          | exact ((((((hK.setCell (by simp <;> omega) _).setCell (by simp <;> omega) _).setCell (by simp <;> omega) _).setCell (by simp <;> omega) _).setCell (by simp <;> omega) _).setCell (by simp <;> omega) _).drew
          | exact (((((hK.drew.setCell (by simp <;> omega) _).setCell (by simp <;> omega) _).setCell (by simp <;> omega) _).setCell (by simp <;> omega) _).setCell (by simp <;> omega) _).setCell (by simp <;> omega) _
          | trace_state
  · go_region_with (go_at_call 38; refine (RStr_any _ _).mono ?_; dsimp only [Node.val]; rintro e W3 ⟨rfl, H3⟩; have K3 : Below W2.heap.size W2 W3 := (by first | exact ((Below.refl _ _).alloc (Nat.le_refl _) _).trans (H3.mono (by simp)) | exact ((((Below.refl _ _).alloc (Nat.le_refl _) _)).drew).trans (H3.mono (by simp)) | exact ((((Below.refl _ _).drew).alloc (Nat.le_refl _) _)).trans (H3.mono (by simp)) | exact (((((Below.refl _ _).drew).alloc (Nat.le_refl _) _)).drew).trans (H3.mono (by simp))); obtain ⟨⟨a0', a1', a2', a3'⟩, b0', b1', b2', b3'⟩ := cells4 (blk K3 X.out.2.1); obtain ⟨⟨c0', c1'⟩, c2', c3'⟩ := cells2 (blk K3 X.out.2.2.1); obtain ⟨⟨d0', d1'⟩, _⟩ := cells2 (blk K3 X.out.2.2.2); have HK3 := Lib.hid K3; clear K3 H3)
    all_goals
      go_wp2
      refine ⟨rfl, .tuple #[Node.val ⟨1, 0, ⟨#[97]⟩, none, 0, 0⟩, .agg #[.slice a len cap, .int .i64 at']], ?_, ⟨⟨#[97]⟩, at', by simp [texts5], rfl⟩, ?_⟩
      · simp [results, Tryz.f50, go_sem, Node.val, a0', a1', a2', a3', c0', c1']
      · have hK := X.out.1.trans (HK3.out.mono X.out.1.size)
        first
          | exact (((((hK.setCell (by simp <;> omega) _).setCell (by simp <;> omega) _).setCell (by simp <;> omega) _).setCell (by simp <;> omega) _).setCell (by simp <;> omega) _).setCell (by simp <;> omega) _
          | exact ((((((hK.setCell (by simp <;> omega) _).setCell (by simp <;> omega) _).setCell (by simp <;> omega) _).setCell (by simp <;> omega) _).setCell (by simp <;> omega) _).setCell (by simp <;> omega) _).drew
          | exact (((((hK.drew.setCell (by simp <;> omega) _).setCell (by simp <;> omega) _).setCell (by simp <;> omega) _).setCell (by simp <;> omega) _).setCell (by simp <;> omega) _).setCell (by simp <;> omega) _
          | trace_state
  · go_region_with (go_at_call 38; refine (RStr_any _ _).mono ?_; dsimp only [Node.val]; rintro e W3 ⟨rfl, H3⟩; have K3 : Below W2.heap.size W2 W3 := (by first | exact ((Below.refl _ _).alloc (Nat.le_refl _) _).trans (H3.mono (by simp)) | exact ((((Below.refl _ _).alloc (Nat.le_refl _) _)).drew).trans (H3.mono (by simp)) | exact ((((Below.refl _ _).drew).alloc (Nat.le_refl _) _)).trans (H3.mono (by simp)) | exact (((((Below.refl _ _).drew).alloc (Nat.le_refl _) _)).drew).trans (H3.mono (by simp))); obtain ⟨⟨a0', a1', a2', a3'⟩, b0', b1', b2', b3'⟩ := cells4 (blk K3 X.out.2.1); obtain ⟨⟨c0', c1'⟩, c2', c3'⟩ := cells2 (blk K3 X.out.2.2.1); obtain ⟨⟨d0', d1'⟩, _⟩ := cells2 (blk K3 X.out.2.2.2); have HK3 := Lib.hid K3; clear K3 H3)
    all_goals
      go_wp2
      refine ⟨rfl, .tuple #[Node.val ⟨1, 0, ⟨#[98]⟩, none, 0, 0⟩, .agg #[.slice a len cap, .int .i64 at']], ?_, ⟨⟨#[98]⟩, at', by simp [texts5], rfl⟩, ?_⟩
      · simp [results, Tryz.f50, go_sem, Node.val, a0', a1', a2', a3', c0', c1']
      · have hK := X.out.1.trans (HK3.out.mono X.out.1.size)
        first
          | exact (((((hK.setCell (by simp <;> omega) _).setCell (by simp <;> omega) _).setCell (by simp <;> omega) _).setCell (by simp <;> omega) _).setCell (by simp <;> omega) _).setCell (by simp <;> omega) _
          | exact ((((((hK.setCell (by simp <;> omega) _).setCell (by simp <;> omega) _).setCell (by simp <;> omega) _).setCell (by simp <;> omega) _).setCell (by simp <;> omega) _).setCell (by simp <;> omega) _).drew
          | exact (((((hK.drew.setCell (by simp <;> omega) _).setCell (by simp <;> omega) _).setCell (by simp <;> omega) _).setCell (by simp <;> omega) _).setCell (by simp <;> omega) _).setCell (by simp <;> omega) _
          | trace_state
  · go_region_with (go_at_call 38; refine (RStr_any _ _).mono ?_; dsimp only [Node.val]; rintro e W3 ⟨rfl, H3⟩; have K3 : Below W2.heap.size W2 W3 := (by first | exact ((Below.refl _ _).alloc (Nat.le_refl _) _).trans (H3.mono (by simp)) | exact ((((Below.refl _ _).alloc (Nat.le_refl _) _)).drew).trans (H3.mono (by simp)) | exact ((((Below.refl _ _).drew).alloc (Nat.le_refl _) _)).trans (H3.mono (by simp)) | exact (((((Below.refl _ _).drew).alloc (Nat.le_refl _) _)).drew).trans (H3.mono (by simp))); obtain ⟨⟨a0', a1', a2', a3'⟩, b0', b1', b2', b3'⟩ := cells4 (blk K3 X.out.2.1); obtain ⟨⟨c0', c1'⟩, c2', c3'⟩ := cells2 (blk K3 X.out.2.2.1); obtain ⟨⟨d0', d1'⟩, _⟩ := cells2 (blk K3 X.out.2.2.2); have HK3 := Lib.hid K3; clear K3 H3)
    all_goals
      go_wp2
      refine ⟨rfl, .tuple #[Node.val ⟨1, 0, ⟨#[97, 98]⟩, none, 0, 0⟩, .agg #[.slice a len cap, .int .i64 at']], ?_, ⟨⟨#[97, 98]⟩, at', by simp [texts5], rfl⟩, ?_⟩
      · simp [results, Tryz.f50, go_sem, Node.val, a0', a1', a2', a3', c0', c1']
      · have hK := X.out.1.trans (HK3.out.mono X.out.1.size)
        first
          | exact (((((hK.setCell (by simp <;> omega) _).setCell (by simp <;> omega) _).setCell (by simp <;> omega) _).setCell (by simp <;> omega) _).setCell (by simp <;> omega) _).setCell (by simp <;> omega) _
          | exact ((((((hK.setCell (by simp <;> omega) _).setCell (by simp <;> omega) _).setCell (by simp <;> omega) _).setCell (by simp <;> omega) _).setCell (by simp <;> omega) _).setCell (by simp <;> omega) _).drew
          | exact (((((hK.drew.setCell (by simp <;> omega) _).setCell (by simp <;> omega) _).setCell (by simp <;> omega) _).setCell (by simp <;> omega) _).setCell (by simp <;> omega) _).setCell (by simp <;> omega) _
          | trace_state
  · go_region_with (go_at_call 38; refine (RStr_any _ _).mono ?_; dsimp only [Node.val]; rintro e W3 ⟨rfl, H3⟩; have K3 : Below W2.heap.size W2 W3 := (by first | exact ((Below.refl _ _).alloc (Nat.le_refl _) _).trans (H3.mono (by simp)) | exact ((((Below.refl _ _).alloc (Nat.le_refl _) _)).drew).trans (H3.mono (by simp)) | exact ((((Below.refl _ _).drew).alloc (Nat.le_refl _) _)).trans (H3.mono (by simp)) | exact (((((Below.refl _ _).drew).alloc (Nat.le_refl _) _)).drew).trans (H3.mono (by simp))); obtain ⟨⟨a0', a1', a2', a3'⟩, b0', b1', b2', b3'⟩ := cells4 (blk K3 X.out.2.1); obtain ⟨⟨c0', c1'⟩, c2', c3'⟩ := cells2 (blk K3 X.out.2.2.1); obtain ⟨⟨d0', d1'⟩, _⟩ := cells2 (blk K3 X.out.2.2.2); have HK3 := Lib.hid K3; clear K3 H3)
    all_goals
      go_wp2
      refine ⟨rfl, .tuple #[Node.val ⟨1, 0, ⟨#[98, 97]⟩, none, 0, 0⟩, .agg #[.slice a len cap, .int .i64 at']], ?_, ⟨⟨#[98, 97]⟩, at', by simp [texts5], rfl⟩, ?_⟩
      · simp [results, Tryz.f50, go_sem, Node.val, a0', a1', a2', a3', c0', c1']
      · have hK := X.out.1.trans (HK3.out.mono X.out.1.size)
        first
          | exact (((((hK.setCell (by simp <;> omega) _).setCell (by simp <;> omega) _).setCell (by simp <;> omega) _).setCell (by simp <;> omega) _).setCell (by simp <;> omega) _).setCell (by simp <;> omega) _
          | exact ((((((hK.setCell (by simp <;> omega) _).setCell (by simp <;> omega) _).setCell (by simp <;> omega) _).setCell (by simp <;> omega) _).setCell (by simp <;> omega) _).setCell (by simp <;> omega) _).drew
          | exact (((((hK.drew.setCell (by simp <;> omega) _).setCell (by simp <;> omega) _).setCell (by simp <;> omega) _).setCell (by simp <;> omega) _).setCell (by simp <;> omega) _).setCell (by simp <;> omega) _
          | trace_state
end Go.Proofs.YtlbnfokedkpccaaGreat
