/- The laws of words: the walk of the statement CalcWords. -/
import Derived.Test.YtlbnfokedkpccaaGreatCalh
import Derived.Deep.LoopGhost
set_option linter.all false
namespace Go.Proofs.YtlbnfokedkpccaaGreat
open Go.RowKit Go.Shelf
attribute [local go_sem] Oper.semAt_some

theorem do_at {o : Int} (op : Nat) (ho : o = (op : Int)) (hop : op < 12) (x y : Int) (hx : In x) (hy : In y) (W0 w : World) (hb : Below W0.heap.size W0 w) :
    Calls Tryz.prog 47 #[.int .i64 o, .int .i64 x, .int .i64 y] w fun e w' => e = .returned (.int .i64 (ans op x y)) ∧ Hid (Below W0.heap.size W0 w') := by
  subst ho
  exact (do_any op hop x y hx hy w).mono fun e w' h => ⟨h.1, Lib.hid (hb.trans (h.2.mono hb.size))⟩
theorem do_here {o : Int} (op : Nat) (ho : o = (op : Int)) (hop : op < 12) (x y : Int) (hx : In x) (hy : In y) (w : World) :
    Calls Tryz.prog 47 #[.int .i64 o, .int .i64 x, .int .i64 y] w fun e w' => e = .returned (.int .i64 (ans op x y)) ∧ Hid (Below w.heap.size w w') := by
  subst ho
  exact (do_any op hop x y hx hy w).mono fun e w' h => ⟨h.1, Lib.hid h.2⟩
theorem do_sw {o : Int} (op : Nat) (ho : o = (op : Int)) (hop : op < 12) (x y : Int) (hx : In x) (hy : In y) (hs : ans op x y = ans op y x) (w : World) :
    Calls Tryz.prog 47 #[.int .i64 o, .int .i64 y, .int .i64 x] w fun e w' => e = .returned (.int .i64 (ans op x y)) ∧ Hid (Below w.heap.size w w') := by
  rw [hs]; exact do_here op ho hop y x hy hx w
/-- The operations whose parts may be changed for one another. -/
def swaps8 : List Nat := [0, 2, 5, 6, 7, 8, 9, 11]
def row8 : Array Value := #[.int .i64 0, .int .i64 2, .int .i64 5, .int .i64 6, .int .i64 7, .int .i64 8, .int .i64 9, .int .i64 11]
/-- A world in which the list of these stands. -/
structure Lw (w : World) (B : Nat) (W : World) : Prop where
  bel : Below w.heap.size w W
  row : W.heap[B]? = some (.cells row8 3 (0, 0))
theorem Lw.on {w W W' : World} {B : Nat} (h : Lw w B W) (hb : Hid (Below W.heap.size W W')) : Lw w B W' := ⟨h.bel.trans (hb.out.mono h.bel.size), blk hb.out h.row⟩
theorem Lw.at {w W : World} {B : Nat} (h : Lw w B W) (n : Nat) (hn : n < 8) : ∃ o : Nat, o < 12 ∧ (o = 0 ∨ o = 2 ∨ o = 5 ∨ o = 6 ∨ o = 7 ∨ o = 8 ∨ o = 9 ∨ o = 11) ∧ W.cell? ⟨B, n, none⟩ = some (.int .i64 (o : Int)) := by
  have hc : ∀ v, row8[n]? = some v → W.cell? ⟨B, n, none⟩ = some v := fun v hv => by
    simp [World.cell?, h.row, hv]
  have hcs : n = 0 ∨ n = 1 ∨ n = 2 ∨ n = 3 ∨ n = 4 ∨ n = 5 ∨ n = 6 ∨ n = 7 := by omega
  rcases hcs with rfl | rfl | rfl | rfl | rfl | rfl | rfl | rfl
  · exact ⟨0, by omega, by omega, hc _ rfl⟩
  · exact ⟨2, by omega, by omega, hc _ rfl⟩
  · exact ⟨5, by omega, by omega, hc _ rfl⟩
  · exact ⟨6, by omega, by omega, hc _ rfl⟩
  · exact ⟨7, by omega, by omega, hc _ rfl⟩
  · exact ⟨8, by omega, by omega, hc _ rfl⟩
  · exact ⟨9, by omega, by omega, hc _ rfl⟩
  · exact ⟨11, by omega, by omega, hc _ rfl⟩

set_option maxRecDepth 100000 in
set_option maxHeartbeats 4000000 in
theorem Words_pos (x y : Int) (hx : In x) (hy : In y) (w : World) (hv : ∀ W, Below w.heap.size w W → Calls Tryz.prog 15 #[] W fun e W' => e = .returned (.bool true) ∧ Below W.heap.size W W') (hs : 0 < y) :
    Calls Tryz.prog 11 #[.int .i32 x, .int .i32 y] w fun e w' => e = .returned (.bool true) ∧ Below w.heap.size w w' := by
  have HX := Lib.hid hx
  have HY := Lib.hid hy
  have w1 : wrap64 x = x := by have := hx.1; have := hx.2; exact wrap64_in' _ (by omega)
  have w2 : wrap64 y = y := by have := hy.1; have := hy.2; exact wrap64_in' _ (by omega)
  have hy0 : ¬ y = 0 := by omega
  have q1 := quot_rest hx hy hy0
  have hr := fmod_pos x hs
  rw [← ans_mod hy hy0] at hr
  have r1 := hr.1
  have r2 := hr.2
  have hn : ¬ y < 0 := by omega
  clear hr
  have HF := Lib.hid (And.intro (sub_add (y := y) hx) (And.intro (xor_xor (y := y) hx) (And.intro (@and_or x y) (And.intro (@one_of x y) (And.intro (@less_one x y) (And.intro (@less_range x y) (@less_range y x)))))))
  have B0 := Lib.hid (Below.refl w.heap.size w)
  clear hx hy
  have HV := Lib.hid hv
  clear hv
  go_enter Tryz.func11, Tryz.ntmps11
  go_wp2_with (first
    | (go_at_call_of 47 (Value.int IntKind.i64 4); refine (do_at 4 rfl (by decide) _ _ HX.out HY.out w _ B0.out).mono ?_; rintro e W1 ⟨rfl, B1⟩)
    | (go_at_call_of 47 (Value.int IntKind.i64 3); refine (do_at 3 rfl (by decide) _ _ HX.out HY.out w _ B1.out).mono ?_; rintro e W2 ⟨rfl, B2⟩)
    | (go_at_call_of 47 (Value.int IntKind.i64 2); refine (do_at 2 rfl (by decide) _ _ (ans_in HX.out HY.out) HY.out w _ B2.out).mono ?_; rintro e W3 ⟨rfl, B3⟩)
    | (go_at_call_of 47 (Value.int IntKind.i64 0); refine (do_at 0 rfl (by decide) _ _ (ans_in (ans_in HX.out HY.out) HY.out) (ans_in HX.out HY.out) w _ B3.out).mono ?_; rintro e W4 ⟨rfl, B4⟩))
  have L0 : Hid (Lw w W4.heap.size (W4.alloc (.cells row8 3))) := Lib.hid ⟨B4.out.alloc B4.out.size _, World.alloc_heap_new W4 _⟩
  go_loopg [73] (8 : Nat) (fun g i wr => ∃ n : Nat, g = 8 - n ∧ n ≤ 8 ∧ i = .int .i64 n ∧ Hid (Lw w W4.heap.size wr))
  case atStart => exact ⟨0, rfl, by omega, rfl, L0⟩
  case round =>
    clear L0
    obtain ⟨n, rfl, hn8, rfl, HL⟩ := hrel
    by_cases hlt : n < 8
    · have i0 : (0 : Int) ≤ (n : Int) := by omega
      have i1 : (n : Int) < 8 := by omega
      obtain ⟨o, ho12, hos, hcell⟩ := HL.out.at n hlt
      have HS := Lib.hid (And.intro ho12 (swaps x y o hos))
      clear hos ho12
      go_wp2_with (first
        | (have hh := HL; clear hh; go_at_call 47; refine (do_here o rfl HS.out.1 x y HX.out HY.out _).mono ?_; rintro e V1 ⟨rfl, C1⟩; have HL1 := Lib.hid (HL.out.on C1); clear HL)
        | (go_at_call 47; refine (do_sw o rfl HS.out.1 x y HX.out HY.out HS.out.2 _).mono ?_; rintro e V2 ⟨rfl, C2⟩; have HL2 := Lib.hid (HL1.out.on C2)))
      go_roundg (8 - (n + 1))
      case measure => omega
      case rel => exact ⟨n + 1, rfl, by omega, by go_num, HL2⟩
    · have i1 : ¬ (n : Int) < 8 := by omega
      obtain ⟨s1, s2, s3, s4, s5, ⟨p1, p2, p3, p4⟩, ⟨p5, p6, _, _⟩⟩ := HF.out
      have w3 : wrap64 (ans 10 x y + ans 10 y x) = ans 10 x y + ans 10 y x := wrap64_in' _ (by omega)
      have w4 : wrap64 (ans 10 x y + ans 10 y x + ans 11 x y) = 1 := by rw [s4]; unfold wrap64; omega
      have s6 : (ans 10 x y == 1) = decide (x < y) := by rw [Bool.eq_iff_iff]; simp [s5]
      have m5 : ans 5 x y = min x y := rfl
      have m6 : ans 6 x y = max x y := rfl
      have K0 := Lib.hid HL.out.bel
      go_wp2_with (first
        | (go_at_call_of 47 (Value.int IntKind.i64 1); refine (do_at 1 rfl (by decide) x y HX.out HY.out w _ K0.out).mono ?_; rintro e V1 ⟨rfl, K1⟩)
        | (go_at_call_of 47 (Value.int IntKind.i64 9); first
            | (have hh := K2; clear hh; refine (do_at 9 rfl (by decide) x y HX.out HY.out w _ K2.out).mono ?_; rintro e V3 ⟨rfl, K3⟩; clear K2)
            | (have hh := K3; clear hh; refine (do_at 9 rfl (by decide) (ans 9 x y) y (ans_in HX.out HY.out) HY.out w _ K3.out).mono ?_; rintro e V4 ⟨rfl, K4⟩; clear K3))
        | (go_at_call_of 47 (Value.int IntKind.i64 7); refine (do_at 7 rfl (by decide) x y HX.out HY.out w _ K4.out).mono ?_; rintro e V5 ⟨rfl, K5⟩)
        | (go_at_call_of 47 (Value.int IntKind.i64 8); refine (do_at 8 rfl (by decide) x y HX.out HY.out w _ K5.out).mono ?_; rintro e V6 ⟨rfl, K6⟩)
        | (go_at_call_of 47 (Value.int IntKind.i64 0); first
            | (have hh := K1; clear hh; refine (do_at 0 rfl (by decide) (ans 1 x y) y (ans_in HX.out HY.out) HY.out w _ K1.out).mono ?_; rintro e V2 ⟨rfl, K2⟩; clear K1)
            | (have hh := K6; clear hh; refine (do_at 0 rfl (by decide) (ans 7 x y) (ans 8 x y) (ans_in HX.out HY.out) (ans_in HX.out HY.out) w _ K6.out).mono ?_; rintro e V7 ⟨rfl, K7⟩; clear K6)
            | (have hh := K7; clear hh; refine (do_at 0 rfl (by decide) x y HX.out HY.out w _ K7.out).mono ?_; rintro e V8 ⟨rfl, K8⟩; clear K7))
        | (go_at_call_of 47 (Value.int IntKind.i64 10); first
            | (have hh := K8; clear hh; refine (do_at 10 rfl (by decide) x y HX.out HY.out w _ K8.out).mono ?_; rintro e V9 ⟨rfl, K9⟩; clear K8)
            | (have hh := K9; clear hh; refine (do_at 10 rfl (by decide) y x HY.out HX.out w _ K9.out).mono ?_; rintro e V10 ⟨rfl, K10⟩; clear K9))
        | (go_at_call_of 47 (Value.int IntKind.i64 11); refine (do_at 11 rfl (by decide) x y HX.out HY.out w _ K10.out).mono ?_; rintro e V11 ⟨rfl, K11⟩)
        | (go_at_call_of 47 (Value.int IntKind.i64 5); refine (do_at 5 rfl (by decide) x y HX.out HY.out w _ K11.out).mono ?_; rintro e V12 ⟨rfl, K12⟩)
        | (go_at_call_of 47 (Value.int IntKind.i64 6); refine (do_at 6 rfl (by decide) x y HX.out HY.out w _ K12.out).mono ?_; rintro e V13 ⟨rfl, K13⟩)
        | (go_at_call 15; refine (HV.out _ K13.out).mono ?_; rintro e V14 ⟨rfl, K14⟩))
      go_ret
      exact ⟨rfl, K13.out.trans (K14.mono K13.out.size)⟩

set_option maxRecDepth 100000 in
set_option maxHeartbeats 4000000 in
theorem Words_neg (x y : Int) (hx : In x) (hy : In y) (w : World) (hv : ∀ W, Below w.heap.size w W → Calls Tryz.prog 15 #[] W fun e W' => e = .returned (.bool true) ∧ Below W.heap.size W W') (hs : y < 0) :
    Calls Tryz.prog 11 #[.int .i32 x, .int .i32 y] w fun e w' => e = .returned (.bool true) ∧ Below w.heap.size w w' := by
  have HX := Lib.hid hx
  have HY := Lib.hid hy
  have w1 : wrap64 x = x := by have := hx.1; have := hx.2; exact wrap64_in' _ (by omega)
  have w2 : wrap64 y = y := by have := hy.1; have := hy.2; exact wrap64_in' _ (by omega)
  have hy0 : ¬ y = 0 := by omega
  have q1 := quot_rest hx hy hy0
  have hr := fmod_neg x hs
  rw [← ans_mod hy hy0] at hr
  have r1 := hr.1
  have r2 := hr.2
  have hn : ¬ 0 < y := by omega
  clear hr
  have HF := Lib.hid (And.intro (sub_add (y := y) hx) (And.intro (xor_xor (y := y) hx) (And.intro (@and_or x y) (And.intro (@one_of x y) (And.intro (@less_one x y) (And.intro (@less_range x y) (@less_range y x)))))))
  have B0 := Lib.hid (Below.refl w.heap.size w)
  clear hx hy
  have HV := Lib.hid hv
  clear hv
  go_enter Tryz.func11, Tryz.ntmps11
  go_wp2_with (first
    | (go_at_call_of 47 (Value.int IntKind.i64 4); refine (do_at 4 rfl (by decide) _ _ HX.out HY.out w _ B0.out).mono ?_; rintro e W1 ⟨rfl, B1⟩)
    | (go_at_call_of 47 (Value.int IntKind.i64 3); refine (do_at 3 rfl (by decide) _ _ HX.out HY.out w _ B1.out).mono ?_; rintro e W2 ⟨rfl, B2⟩)
    | (go_at_call_of 47 (Value.int IntKind.i64 2); refine (do_at 2 rfl (by decide) _ _ (ans_in HX.out HY.out) HY.out w _ B2.out).mono ?_; rintro e W3 ⟨rfl, B3⟩)
    | (go_at_call_of 47 (Value.int IntKind.i64 0); refine (do_at 0 rfl (by decide) _ _ (ans_in (ans_in HX.out HY.out) HY.out) (ans_in HX.out HY.out) w _ B3.out).mono ?_; rintro e W4 ⟨rfl, B4⟩))
  have L0 : Hid (Lw w W4.heap.size (W4.alloc (.cells row8 3))) := Lib.hid ⟨B4.out.alloc B4.out.size _, World.alloc_heap_new W4 _⟩
  go_loopg [73] (8 : Nat) (fun g i wr => ∃ n : Nat, g = 8 - n ∧ n ≤ 8 ∧ i = .int .i64 n ∧ Hid (Lw w W4.heap.size wr))
  case atStart => exact ⟨0, rfl, by omega, rfl, L0⟩
  case round =>
    clear L0
    obtain ⟨n, rfl, hn8, rfl, HL⟩ := hrel
    by_cases hlt : n < 8
    · have i0 : (0 : Int) ≤ (n : Int) := by omega
      have i1 : (n : Int) < 8 := by omega
      obtain ⟨o, ho12, hos, hcell⟩ := HL.out.at n hlt
      have HS := Lib.hid (And.intro ho12 (swaps x y o hos))
      clear hos ho12
      go_wp2_with (first
        | (have hh := HL; clear hh; go_at_call 47; refine (do_here o rfl HS.out.1 x y HX.out HY.out _).mono ?_; rintro e V1 ⟨rfl, C1⟩; have HL1 := Lib.hid (HL.out.on C1); clear HL)
        | (go_at_call 47; refine (do_sw o rfl HS.out.1 x y HX.out HY.out HS.out.2 _).mono ?_; rintro e V2 ⟨rfl, C2⟩; have HL2 := Lib.hid (HL1.out.on C2)))
      go_roundg (8 - (n + 1))
      case measure => omega
      case rel => exact ⟨n + 1, rfl, by omega, by go_num, HL2⟩
    · have i1 : ¬ (n : Int) < 8 := by omega
      obtain ⟨s1, s2, s3, s4, s5, ⟨p1, p2, p3, p4⟩, ⟨p5, p6, _, _⟩⟩ := HF.out
      have w3 : wrap64 (ans 10 x y + ans 10 y x) = ans 10 x y + ans 10 y x := wrap64_in' _ (by omega)
      have w4 : wrap64 (ans 10 x y + ans 10 y x + ans 11 x y) = 1 := by rw [s4]; unfold wrap64; omega
      have s6 : (ans 10 x y == 1) = decide (x < y) := by rw [Bool.eq_iff_iff]; simp [s5]
      have m5 : ans 5 x y = min x y := rfl
      have m6 : ans 6 x y = max x y := rfl
      have K0 := Lib.hid HL.out.bel
      go_wp2_with (first
        | (go_at_call_of 47 (Value.int IntKind.i64 1); refine (do_at 1 rfl (by decide) x y HX.out HY.out w _ K0.out).mono ?_; rintro e V1 ⟨rfl, K1⟩)
        | (go_at_call_of 47 (Value.int IntKind.i64 9); first
            | (have hh := K2; clear hh; refine (do_at 9 rfl (by decide) x y HX.out HY.out w _ K2.out).mono ?_; rintro e V3 ⟨rfl, K3⟩; clear K2)
            | (have hh := K3; clear hh; refine (do_at 9 rfl (by decide) (ans 9 x y) y (ans_in HX.out HY.out) HY.out w _ K3.out).mono ?_; rintro e V4 ⟨rfl, K4⟩; clear K3))
        | (go_at_call_of 47 (Value.int IntKind.i64 7); refine (do_at 7 rfl (by decide) x y HX.out HY.out w _ K4.out).mono ?_; rintro e V5 ⟨rfl, K5⟩)
        | (go_at_call_of 47 (Value.int IntKind.i64 8); refine (do_at 8 rfl (by decide) x y HX.out HY.out w _ K5.out).mono ?_; rintro e V6 ⟨rfl, K6⟩)
        | (go_at_call_of 47 (Value.int IntKind.i64 0); first
            | (have hh := K1; clear hh; refine (do_at 0 rfl (by decide) (ans 1 x y) y (ans_in HX.out HY.out) HY.out w _ K1.out).mono ?_; rintro e V2 ⟨rfl, K2⟩; clear K1)
            | (have hh := K6; clear hh; refine (do_at 0 rfl (by decide) (ans 7 x y) (ans 8 x y) (ans_in HX.out HY.out) (ans_in HX.out HY.out) w _ K6.out).mono ?_; rintro e V7 ⟨rfl, K7⟩; clear K6)
            | (have hh := K7; clear hh; refine (do_at 0 rfl (by decide) x y HX.out HY.out w _ K7.out).mono ?_; rintro e V8 ⟨rfl, K8⟩; clear K7))
        | (go_at_call_of 47 (Value.int IntKind.i64 10); first
            | (have hh := K8; clear hh; refine (do_at 10 rfl (by decide) x y HX.out HY.out w _ K8.out).mono ?_; rintro e V9 ⟨rfl, K9⟩; clear K8)
            | (have hh := K9; clear hh; refine (do_at 10 rfl (by decide) y x HY.out HX.out w _ K9.out).mono ?_; rintro e V10 ⟨rfl, K10⟩; clear K9))
        | (go_at_call_of 47 (Value.int IntKind.i64 11); refine (do_at 11 rfl (by decide) x y HX.out HY.out w _ K10.out).mono ?_; rintro e V11 ⟨rfl, K11⟩)
        | (go_at_call_of 47 (Value.int IntKind.i64 5); refine (do_at 5 rfl (by decide) x y HX.out HY.out w _ K11.out).mono ?_; rintro e V12 ⟨rfl, K12⟩)
        | (go_at_call_of 47 (Value.int IntKind.i64 6); refine (do_at 6 rfl (by decide) x y HX.out HY.out w _ K12.out).mono ?_; rintro e V13 ⟨rfl, K13⟩)
        | (go_at_call 15; refine (HV.out _ K13.out).mono ?_; rintro e V14 ⟨rfl, K14⟩))
      go_ret
      exact ⟨rfl, K13.out.trans (K14.mono K13.out.size)⟩

set_option maxRecDepth 100000 in
set_option maxHeartbeats 4000000 in
theorem Words_zero (x : Int) (hx : In x) (hy : In 0) (w : World) (hv : ∀ W, Below w.heap.size w W → Calls Tryz.prog 15 #[] W fun e W' => e = .returned (.bool true) ∧ Below W.heap.size W W') (hx0 : ¬ ans 0 (ans 2 0 0) 0 = x) :
    Calls Tryz.prog 11 #[.int .i32 x, .int .i32 0] w fun e w' => e = .returned (.bool true) ∧ Below w.heap.size w w' := by
  have HX := Lib.hid hx
  have HY := Lib.hid hy
  have w1 : wrap64 x = x := by have := hx.1; have := hx.2; exact wrap64_in' _ (by omega)
  have w2 : wrap64 0 = 0 := by have := hy.1; have := hy.2; exact wrap64_in' _ (by omega)
  have z3 := (zero_div x).1
  have z4 := (zero_div x).2
  have HF := Lib.hid (And.intro (sub_add (y := 0) hx) (And.intro (xor_xor (y := 0) hx) (And.intro (@and_or x 0) (And.intro (@one_of x 0) (And.intro (@less_one x 0) (And.intro (@less_range x 0) (@less_range 0 x)))))))
  have B0 := Lib.hid (Below.refl w.heap.size w)
  clear hx hy
  have HV := Lib.hid hv
  clear hv
  go_enter Tryz.func11, Tryz.ntmps11
  go_wp2_with (first
    | (go_at_call_of 47 (Value.int IntKind.i64 4); refine (do_at 4 rfl (by decide) _ _ HX.out HY.out w _ B0.out).mono ?_; rintro e W1 ⟨rfl, B1⟩)
    | (go_at_call_of 47 (Value.int IntKind.i64 3); first
        | (have hh := B1; clear hh; refine (do_at 3 rfl (by decide) x 0 HX.out HY.out w _ B1.out).mono ?_; rintro e W2 ⟨rfl, B2⟩; clear B1)
        | (have hh := B4; clear hh; refine (do_at 3 rfl (by decide) x 0 HX.out HY.out w _ B4.out).mono ?_; rintro e W5 ⟨rfl, B5⟩; clear B4))
    | (go_at_call_of 47 (Value.int IntKind.i64 2); have hh := B2; clear hh; refine (do_at 2 rfl (by decide) 0 0 HY.out HY.out w _ B2.out).mono ?_; rintro e W3 ⟨rfl, B3⟩; clear B2)
    | (go_at_call_of 47 (Value.int IntKind.i64 0); have hh := B3; clear hh; refine (do_at 0 rfl (by decide) (ans 2 0 0) 0 (ans_in HY.out HY.out) HY.out w _ B3.out).mono ?_; rintro e W4 ⟨rfl, B4⟩; clear B3))
  have L0 : Hid (Lw w W5.heap.size (W5.alloc (.cells row8 3))) := Lib.hid ⟨B5.out.alloc B5.out.size _, World.alloc_heap_new W5 _⟩
  go_loopg [73] (8 : Nat) (fun g i wr => ∃ n : Nat, g = 8 - n ∧ n ≤ 8 ∧ i = .int .i64 n ∧ Hid (Lw w W5.heap.size wr))
  case atStart => exact ⟨0, rfl, by omega, rfl, L0⟩
  case round =>
    clear L0
    obtain ⟨n, rfl, hn8, rfl, HL⟩ := hrel
    by_cases hlt : n < 8
    · have i0 : (0 : Int) ≤ (n : Int) := by omega
      have i1 : (n : Int) < 8 := by omega
      obtain ⟨o, ho12, hos, hcell⟩ := HL.out.at n hlt
      have HS := Lib.hid (And.intro ho12 (swaps x 0 o hos))
      clear hos ho12
      go_wp2_with (first
        | (have hh := HL; clear hh; go_at_call 47; refine (do_here o rfl HS.out.1 x 0 HX.out HY.out _).mono ?_; rintro e V1 ⟨rfl, C1⟩; have HL1 := Lib.hid (HL.out.on C1); clear HL)
        | (go_at_call 47; refine (do_sw o rfl HS.out.1 x 0 HX.out HY.out HS.out.2 _).mono ?_; rintro e V2 ⟨rfl, C2⟩; have HL2 := Lib.hid (HL1.out.on C2)))
      go_roundg (8 - (n + 1))
      case measure => omega
      case rel => exact ⟨n + 1, rfl, by omega, by go_num, HL2⟩
    · have i1 : ¬ (n : Int) < 8 := by omega
      obtain ⟨s1, s2, s3, s4, s5, ⟨p1, p2, p3, p4⟩, ⟨p5, p6, _, _⟩⟩ := HF.out
      have w3 : wrap64 (ans 10 x 0 + ans 10 0 x) = ans 10 x 0 + ans 10 0 x := wrap64_in' _ (by omega)
      have w4 : wrap64 (ans 10 x 0 + ans 10 0 x + ans 11 x 0) = 1 := by rw [s4]; unfold wrap64; omega
      have s6 : (ans 10 x 0 == 1) = decide (x < 0) := by rw [Bool.eq_iff_iff]; simp [s5]
      have m5 : ans 5 x 0 = min x 0 := rfl
      have m6 : ans 6 x 0 = max x 0 := rfl
      have K0 := Lib.hid HL.out.bel
      go_wp2_with (first
        | (go_at_call_of 47 (Value.int IntKind.i64 1); refine (do_at 1 rfl (by decide) x 0 HX.out HY.out w _ K0.out).mono ?_; rintro e V1 ⟨rfl, K1⟩)
        | (go_at_call_of 47 (Value.int IntKind.i64 9); first
            | (have hh := K2; clear hh; refine (do_at 9 rfl (by decide) x 0 HX.out HY.out w _ K2.out).mono ?_; rintro e V3 ⟨rfl, K3⟩; clear K2)
            | (have hh := K3; clear hh; refine (do_at 9 rfl (by decide) (ans 9 x 0) 0 (ans_in HX.out HY.out) HY.out w _ K3.out).mono ?_; rintro e V4 ⟨rfl, K4⟩; clear K3))
        | (go_at_call_of 47 (Value.int IntKind.i64 7); refine (do_at 7 rfl (by decide) x 0 HX.out HY.out w _ K4.out).mono ?_; rintro e V5 ⟨rfl, K5⟩)
        | (go_at_call_of 47 (Value.int IntKind.i64 8); refine (do_at 8 rfl (by decide) x 0 HX.out HY.out w _ K5.out).mono ?_; rintro e V6 ⟨rfl, K6⟩)
        | (go_at_call_of 47 (Value.int IntKind.i64 0); first
            | (have hh := K1; clear hh; refine (do_at 0 rfl (by decide) (ans 1 x 0) 0 (ans_in HX.out HY.out) HY.out w _ K1.out).mono ?_; rintro e V2 ⟨rfl, K2⟩; clear K1)
            | (have hh := K6; clear hh; refine (do_at 0 rfl (by decide) (ans 7 x 0) (ans 8 x 0) (ans_in HX.out HY.out) (ans_in HX.out HY.out) w _ K6.out).mono ?_; rintro e V7 ⟨rfl, K7⟩; clear K6)
            | (have hh := K7; clear hh; refine (do_at 0 rfl (by decide) x 0 HX.out HY.out w _ K7.out).mono ?_; rintro e V8 ⟨rfl, K8⟩; clear K7))
        | (go_at_call_of 47 (Value.int IntKind.i64 10); first
            | (have hh := K8; clear hh; refine (do_at 10 rfl (by decide) x 0 HX.out HY.out w _ K8.out).mono ?_; rintro e V9 ⟨rfl, K9⟩; clear K8)
            | (have hh := K9; clear hh; refine (do_at 10 rfl (by decide) 0 x HY.out HX.out w _ K9.out).mono ?_; rintro e V10 ⟨rfl, K10⟩; clear K9))
        | (go_at_call_of 47 (Value.int IntKind.i64 11); refine (do_at 11 rfl (by decide) x 0 HX.out HY.out w _ K10.out).mono ?_; rintro e V11 ⟨rfl, K11⟩)
        | (go_at_call_of 47 (Value.int IntKind.i64 5); refine (do_at 5 rfl (by decide) x 0 HX.out HY.out w _ K11.out).mono ?_; rintro e V12 ⟨rfl, K12⟩)
        | (go_at_call_of 47 (Value.int IntKind.i64 6); refine (do_at 6 rfl (by decide) x 0 HX.out HY.out w _ K12.out).mono ?_; rintro e V13 ⟨rfl, K13⟩)
        | (go_at_call 15; refine (HV.out _ K13.out).mono ?_; rintro e V14 ⟨rfl, K14⟩))
      go_ret
      exact ⟨rfl, K13.out.trans (K14.mono K13.out.size)⟩

set_option maxRecDepth 100000 in
set_option maxHeartbeats 4000000 in
theorem Words_zero2 (x : Int) (hx : In x) (hy : In 0) (w : World) (hv : ∀ W, Below w.heap.size w W → Calls Tryz.prog 15 #[] W fun e W' => e = .returned (.bool true) ∧ Below W.heap.size W W') (hx0 : ans 0 (ans 2 0 0) 0 = x) :
    Calls Tryz.prog 11 #[.int .i32 x, .int .i32 0] w fun e w' => e = .returned (.bool true) ∧ Below w.heap.size w w' := by
  have HX := Lib.hid hx
  have HY := Lib.hid hy
  have w1 : wrap64 x = x := by have := hx.1; have := hx.2; exact wrap64_in' _ (by omega)
  have w2 : wrap64 0 = 0 := by have := hy.1; have := hy.2; exact wrap64_in' _ (by omega)
  have z3 := (zero_div x).1
  have z4 := (zero_div x).2
  have HF := Lib.hid (And.intro (sub_add (y := 0) hx) (And.intro (xor_xor (y := 0) hx) (And.intro (@and_or x 0) (And.intro (@one_of x 0) (And.intro (@less_one x 0) (And.intro (@less_range x 0) (@less_range 0 x)))))))
  have B0 := Lib.hid (Below.refl w.heap.size w)
  clear hx hy
  have HV := Lib.hid hv
  clear hv
  go_enter Tryz.func11, Tryz.ntmps11
  go_wp2_with (first
    | (go_at_call_of 47 (Value.int IntKind.i64 4); refine (do_at 4 rfl (by decide) _ _ HX.out HY.out w _ B0.out).mono ?_; rintro e W1 ⟨rfl, B1⟩)
    | (go_at_call_of 47 (Value.int IntKind.i64 3); first
        | (have hh := B1; clear hh; refine (do_at 3 rfl (by decide) x 0 HX.out HY.out w _ B1.out).mono ?_; rintro e W2 ⟨rfl, B2⟩; clear B1)
        | (have hh := B4; clear hh; refine (do_at 3 rfl (by decide) x 0 HX.out HY.out w _ B4.out).mono ?_; rintro e W5 ⟨rfl, B5⟩; clear B4))
    | (go_at_call_of 47 (Value.int IntKind.i64 2); have hh := B2; clear hh; refine (do_at 2 rfl (by decide) 0 0 HY.out HY.out w _ B2.out).mono ?_; rintro e W3 ⟨rfl, B3⟩; clear B2)
    | (go_at_call_of 47 (Value.int IntKind.i64 0); have hh := B3; clear hh; refine (do_at 0 rfl (by decide) (ans 2 0 0) 0 (ans_in HY.out HY.out) HY.out w _ B3.out).mono ?_; rintro e W4 ⟨rfl, B4⟩; clear B3))
  have L0 : Hid (Lw w W5.heap.size (W5.alloc (.cells row8 3))) := Lib.hid ⟨B5.out.alloc B5.out.size _, World.alloc_heap_new W5 _⟩
  go_loopg [73] (8 : Nat) (fun g i wr => ∃ n : Nat, g = 8 - n ∧ n ≤ 8 ∧ i = .int .i64 n ∧ Hid (Lw w W5.heap.size wr))
  case atStart => exact ⟨0, rfl, by omega, rfl, L0⟩
  case round =>
    clear L0
    obtain ⟨n, rfl, hn8, rfl, HL⟩ := hrel
    by_cases hlt : n < 8
    · have i0 : (0 : Int) ≤ (n : Int) := by omega
      have i1 : (n : Int) < 8 := by omega
      obtain ⟨o, ho12, hos, hcell⟩ := HL.out.at n hlt
      have HS := Lib.hid (And.intro ho12 (swaps x 0 o hos))
      clear hos ho12
      go_wp2_with (first
        | (have hh := HL; clear hh; go_at_call 47; refine (do_here o rfl HS.out.1 x 0 HX.out HY.out _).mono ?_; rintro e V1 ⟨rfl, C1⟩; have HL1 := Lib.hid (HL.out.on C1); clear HL)
        | (go_at_call 47; refine (do_sw o rfl HS.out.1 x 0 HX.out HY.out HS.out.2 _).mono ?_; rintro e V2 ⟨rfl, C2⟩; have HL2 := Lib.hid (HL1.out.on C2)))
      go_roundg (8 - (n + 1))
      case measure => omega
      case rel => exact ⟨n + 1, rfl, by omega, by go_num, HL2⟩
    · have i1 : ¬ (n : Int) < 8 := by omega
      obtain ⟨s1, s2, s3, s4, s5, ⟨p1, p2, p3, p4⟩, ⟨p5, p6, _, _⟩⟩ := HF.out
      have w3 : wrap64 (ans 10 x 0 + ans 10 0 x) = ans 10 x 0 + ans 10 0 x := wrap64_in' _ (by omega)
      have w4 : wrap64 (ans 10 x 0 + ans 10 0 x + ans 11 x 0) = 1 := by rw [s4]; unfold wrap64; omega
      have s6 : (ans 10 x 0 == 1) = decide (x < 0) := by rw [Bool.eq_iff_iff]; simp [s5]
      have m5 : ans 5 x 0 = min x 0 := rfl
      have m6 : ans 6 x 0 = max x 0 := rfl
      have K0 := Lib.hid HL.out.bel
      go_wp2_with (first
        | (go_at_call_of 47 (Value.int IntKind.i64 1); refine (do_at 1 rfl (by decide) x 0 HX.out HY.out w _ K0.out).mono ?_; rintro e V1 ⟨rfl, K1⟩)
        | (go_at_call_of 47 (Value.int IntKind.i64 9); first
            | (have hh := K2; clear hh; refine (do_at 9 rfl (by decide) x 0 HX.out HY.out w _ K2.out).mono ?_; rintro e V3 ⟨rfl, K3⟩; clear K2)
            | (have hh := K3; clear hh; refine (do_at 9 rfl (by decide) (ans 9 x 0) 0 (ans_in HX.out HY.out) HY.out w _ K3.out).mono ?_; rintro e V4 ⟨rfl, K4⟩; clear K3))
        | (go_at_call_of 47 (Value.int IntKind.i64 7); refine (do_at 7 rfl (by decide) x 0 HX.out HY.out w _ K4.out).mono ?_; rintro e V5 ⟨rfl, K5⟩)
        | (go_at_call_of 47 (Value.int IntKind.i64 8); refine (do_at 8 rfl (by decide) x 0 HX.out HY.out w _ K5.out).mono ?_; rintro e V6 ⟨rfl, K6⟩)
        | (go_at_call_of 47 (Value.int IntKind.i64 0); first
            | (have hh := K1; clear hh; refine (do_at 0 rfl (by decide) (ans 1 x 0) 0 (ans_in HX.out HY.out) HY.out w _ K1.out).mono ?_; rintro e V2 ⟨rfl, K2⟩; clear K1)
            | (have hh := K6; clear hh; refine (do_at 0 rfl (by decide) (ans 7 x 0) (ans 8 x 0) (ans_in HX.out HY.out) (ans_in HX.out HY.out) w _ K6.out).mono ?_; rintro e V7 ⟨rfl, K7⟩; clear K6)
            | (have hh := K7; clear hh; refine (do_at 0 rfl (by decide) x 0 HX.out HY.out w _ K7.out).mono ?_; rintro e V8 ⟨rfl, K8⟩; clear K7))
        | (go_at_call_of 47 (Value.int IntKind.i64 10); first
            | (have hh := K8; clear hh; refine (do_at 10 rfl (by decide) x 0 HX.out HY.out w _ K8.out).mono ?_; rintro e V9 ⟨rfl, K9⟩; clear K8)
            | (have hh := K9; clear hh; refine (do_at 10 rfl (by decide) 0 x HY.out HX.out w _ K9.out).mono ?_; rintro e V10 ⟨rfl, K10⟩; clear K9))
        | (go_at_call_of 47 (Value.int IntKind.i64 11); refine (do_at 11 rfl (by decide) x 0 HX.out HY.out w _ K10.out).mono ?_; rintro e V11 ⟨rfl, K11⟩)
        | (go_at_call_of 47 (Value.int IntKind.i64 5); refine (do_at 5 rfl (by decide) x 0 HX.out HY.out w _ K11.out).mono ?_; rintro e V12 ⟨rfl, K12⟩)
        | (go_at_call_of 47 (Value.int IntKind.i64 6); refine (do_at 6 rfl (by decide) x 0 HX.out HY.out w _ K12.out).mono ?_; rintro e V13 ⟨rfl, K13⟩)
        | (go_at_call 15; refine (HV.out _ K13.out).mono ?_; rintro e V14 ⟨rfl, K14⟩))
      go_ret
      exact ⟨rfl, K13.out.trans (K14.mono K13.out.size)⟩

theorem Words_any (x y : Int) (hx : In x) (hy : In y) (w : World) (hv : ∀ W, Below w.heap.size w W → Calls Tryz.prog 15 #[] W fun e W' => e = .returned (.bool true) ∧ Below W.heap.size W W') :
    Calls Tryz.prog 11 #[.int .i32 x, .int .i32 y] w fun e w' => e = .returned (.bool true) ∧ Below w.heap.size w w' := by
  rcases Int.lt_trichotomy y 0 with h | h | h
  · exact Words_neg x y hx hy w hv h
  · subst h
    by_cases h0 : ans 0 (ans 2 0 0) 0 = x
    · exact Words_zero2 x hx hy w hv h0
    · exact Words_zero x hx hy w hv h0
  · exact Words_pos x y hx hy w hv h
end Go.Proofs.YtlbnfokedkpccaaGreat
