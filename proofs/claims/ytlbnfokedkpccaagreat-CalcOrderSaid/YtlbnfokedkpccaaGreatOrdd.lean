/- Values made of numbers: ValueOf at the types of words and of texts. -/
import Derived.Test.YtlbnfokedkpccaaGreatOrdc
import Derived.Deep.RegionHeld3
set_option linter.all false
namespace Go.Proofs.YtlbnfokedkpccaaGreat
open Go.RowKit Go.Shelf
attribute [local go_sem] Oper.semAt_some

theorem cells2 {W : World} {B : Nat} {t : TypeId} {a b : Value} (h : W.heap[B]? = some (.cells #[a, b] t (0, 0))) :
    (W.cell? ⟨B, 0, none⟩ = some a ∧ W.cell? ⟨B, 1, none⟩ = some b) ∧ (W.frozen? ⟨B, 0, none⟩ = false ∧ W.frozen? ⟨B, 1, none⟩ = false) := by
  simp [World.cell?, World.frozen?, h]
/-- Four blocks that are made one behind the other. -/
theorem boxes (w : World) (a b c d : Array Value) (t u v x : TypeId) :
    Below w.heap.size w ((((w.alloc (.cells a t)).alloc (.cells b u)).alloc (.cells c v)).alloc (.cells d x)) ∧ ((((w.alloc (.cells a t)).alloc (.cells b u)).alloc (.cells c v)).alloc (.cells d x)).heap[w.heap.size]? = some (.cells a t (0, 0)) ∧
      ((((w.alloc (.cells a t)).alloc (.cells b u)).alloc (.cells c v)).alloc (.cells d x)).heap[w.heap.size + 1]? = some (.cells b u (0, 0)) ∧ ((((w.alloc (.cells a t)).alloc (.cells b u)).alloc (.cells c v)).alloc (.cells d x)).heap[w.heap.size + 1 + 1]? = some (.cells c v (0, 0)) ∧
      ((((w.alloc (.cells a t)).alloc (.cells b u)).alloc (.cells c v)).alloc (.cells d x)).heap[w.heap.size + 1 + 1 + 1]? = some (.cells d x (0, 0)) := by
  have h1 := World.alloc_heap_new w (.cells a t)
  have h2 := World.alloc_heap_new (w.alloc (.cells a t)) (.cells b u)
  have h3 := World.alloc_heap_new ((w.alloc (.cells a t)).alloc (.cells b u)) (.cells c v)
  have h4 := World.alloc_heap_new (((w.alloc (.cells a t)).alloc (.cells b u)).alloc (.cells c v)) (.cells d x)
  simp only [World.size_alloc] at h2 h3 h4
  have k2 := Below.heap_alloc (w.alloc (.cells a t)) (.cells b u)
  have k3 := Below.heap_alloc ((w.alloc (.cells a t)).alloc (.cells b u)) (.cells c v)
  have k4 := Below.heap_alloc (((w.alloc (.cells a t)).alloc (.cells b u)).alloc (.cells c v)) (.cells d x)
  simp only [World.size_alloc] at k2 k3 k4
  exact ⟨((((Below.refl _ _).alloc (Nat.le_refl _) _).alloc (by simp) _).alloc (by simp <;> omega) _).alloc (by simp <;> omega) _, ((k4 _ (by omega)).trans ((k3 _ (by omega)).trans (k2 _ (by omega)))).trans h1,
    ((k4 _ (by omega)).trans (k3 _ (by omega))).trans h2, (k4 _ (by omega)).trans h3, h4⟩

set_option maxRecDepth 100000 in
set_option maxHeartbeats 2000000 in
theorem ValueOf_int (n₀ : Nat) (ta : Option Addr) (tl tc : Nat) (a : Option Addr) (len cap : Nat) (l : List Int) (at_ : Nat) (w : World) (hl : IsInts n₀ w a len l) (hn : n₀ ≤ w.heap.size) :
    Calls Tryz.prog 50 #[.agg #[.int .i64 0, .slice ta tl tc], streamV a len cap at_] w fun e w' => (∃ (n : Int) (at' : Nat), -1 ≤ n ∧ n < 5 ∧ e = .returned (.tuple #[wordV n, streamV a len cap at'])) ∧ Below w.heap.size w w' := by
  have HT : Hid (∀ W, Below w.heap.size w W → Calls Tryz.prog 49 #[.agg #[.slice a len cap, .int .i64 at_], .int .i64 6] W fun e w' => ∃ (n : Int) (at' : Nat), e = .returned (.tuple #[.int .i64 n, .agg #[.slice a len cap, .int .i64 at']]) ∧ Hid ((0 ≤ n ∧ n < 6) ∧ Below W.heap.size W w')) := Lib.hid fun W hW =>
    (Take_any n₀ a len cap l at_ 6 (by omega) (by omega) W (hl.bel (hW.mono hn)) (by have := hW.size; omega)).mono fun e w' h => by
      obtain ⟨⟨n, at', h0, h1, he⟩, hb⟩ := h
      exact ⟨n, at', he, Lib.hid ⟨⟨h0, h1⟩, hb⟩⟩
  unfold streamV
  clear hl hn
  have HB := Lib.hid (boxes w #[.int .i64 0, .slice ta tl tc] #[.slice a len cap, .int .i64 at_] #[.int .i64 0, .int .i64 0, .string ⟨#[]⟩, .slice none 0 0] #[.slice none 0 0, .int .i64 0] 36 59 44 59)
  go_enter Tryz.func50, Tryz.ntmps50
  go_wp2_with (go_at_call 49; refine (HT.out _ HB.out.1).mono ?_; rintro e W1 ⟨n, at', rfl, H1⟩; have K1 := Lib.hid (HB.out.1.trans (H1.out.2.mono HB.out.1.size)); have L1 := Lib.hid (And.intro (blk H1.out.2 HB.out.2.2.2.1) (blk H1.out.2 HB.out.2.2.2.2)))
  have x4 := blk (Lib.hid ((Below.refl W1.heap.size W1).alloc (Nat.le_refl _) (.cells #[.slice a len cap, .int .i64 at'] 59))).out L1.out.1
  have x5 := blk (Lib.hid ((Below.refl W1.heap.size W1).alloc (Nat.le_refl _) (.cells #[.slice a len cap, .int .i64 at'] 59))).out L1.out.2
  have x7 := World.alloc_heap_new W1 (.cells #[.slice a len cap, .int .i64 at'] 59)
  have x0 : Below w.heap.size w (W1.alloc (.cells #[.slice a len cap, .int .i64 at'] 59)) := K1.out.alloc K1.out.size _
  obtain ⟨W2, hW2⟩ : ∃ W2, W1.alloc (.cells #[.slice a len cap, .int .i64 at'] 59) = W2 := ⟨_, rfl⟩
  rw [hW2] at x4 x5 x7 x0 ⊢
  have N1 := H1.out.1
  obtain ⟨b7, hb7⟩ : ∃ b7, W1.heap.size = b7 := ⟨_, rfl⟩
  have hge : w.heap.size + 4 ≤ b7 := by
    have h1 := H1.out.2.size
    simp only [World.size_alloc] at h1
    omega
  have q1 : b7 ≠ w.heap.size + 1 + 1 := by omega
  have q2 : b7 ≠ w.heap.size + 1 + 1 + 1 := by omega
  have q3 : w.heap.size + 1 + 1 ≠ b7 := by omega
  have q4 : w.heap.size + 1 + 1 + 1 ≠ b7 := by omega
  rw [hb7] at x7 ⊢
  obtain ⟨⟨a0, a1, a2, a3⟩, b0, b1, b2, b3⟩ := cells4 x4
  obtain ⟨⟨c0, c1⟩, c2, c3⟩ := cells2 x5
  obtain ⟨⟨d0, d1⟩, _⟩ := cells2 x7
  have X := Lib.hid (And.intro x0 (And.intro x4 (And.intro x5 x7)))
  clear x0 x4 x5 x7 hW2 hb7 H1 K1 L1 HT
  go_region_held3 (fun w' => w'.cell? ⟨b7, 0, none⟩ = some (.slice a len cap) ∧ w'.cell? ⟨b7, 1, none⟩ = some (.int .i64 at'))
    (go_keep)
    (first
      | (go_at_call 55; refine (RInt_any _ _).mono ?_; unfold wordV; rintro e W3 ⟨rfl, H3⟩; have K3 : Below W2.heap.size W2 W3 := (by first | exact H3 | exact ((Below.refl _ _).drew).trans H3 | exact (((Below.refl _ _).drew).drew).trans H3); obtain ⟨⟨a0', a1', a2', a3'⟩, b0', b1', b2', b3'⟩ := cells4 (blk K3 X.out.2.1); obtain ⟨⟨c0', c1'⟩, c2', c3'⟩ := cells2 (blk K3 X.out.2.2.1); obtain ⟨⟨d0', d1'⟩, _⟩ := cells2 (blk K3 X.out.2.2.2); have HK3 := Lib.hid K3; clear K3 H3))
  have hw : IntKind.i64.wrap (n - 1) = n - 1 := by rw [IntKind.wrap_i64]; omega
  rw [hw]
  go_wp2
  refine ⟨rfl, .tuple #[wordV (n - 1), .agg #[.slice a len cap, .int .i64 at']], ?_, ⟨n - 1, at', by omega, by omega, rfl⟩, ?_⟩
  · simp [results, Tryz.f50, go_sem, wordV, a0', a1', a2', a3', c0', c1']
  · have hK := X.out.1.trans (HK3.out.mono X.out.1.size)
    exact (((((hK.setCell (by simp <;> omega) _).setCell (by simp <;> omega) _).setCell (by simp <;> omega) _).setCell (by simp <;> omega) _).setCell (by simp <;> omega) _).setCell (by simp <;> omega) _
end Go.Proofs.YtlbnfokedkpccaaGreat
