/- What is attempted, and not refused: refuse.Attempt of a function that returns a value. -/
import Derived.Test.YtlbnfokedkpccaaGreatCala
import Derived.Tactics2
import Derived.Defers
import Derived.Recover
import Derived.Laws.Pointers
set_option linter.all false
namespace Go.Proofs.YtlbnfokedkpccaaGreat
open Go.RowKit Go.Shelf
attribute [local go_sem] Oper.semAt_some

theorem catch_idle (p : Addr) (w : World) :
    CallsD Tryz.prog 125 #[.pointer (some p)] .returning w fun e u' w' => e = .returned (.tuple #[]) ∧ u' = .returning ∧ w' = w := by
  refine callsD_of_wpS Tryz.func125 rfl fun c₀ cs hu => ?_
  apply wpS_seq
  apply wpS_region
  simp [wpOpsS, go_sem, recoverD, hu, Tryz.ntmps125, Exit.thenS]
  apply wpS_seq
  apply wpS_region
  simp [wpOpsS, go_sem, Exit.thenS]
  refine wpS_cond (t := false) (by simp [Act.eval, Array.replicate]) ?_
  simp only [Bool.false_eq_true, if_false]
  refine wpS_of_wp (wp_skip ?_)
  cases c₀
  simp_all [bodyPostS, results, Tryz.results125]

theorem assert_refused (v : Value) (xt : TypeId) (w : World) : (Instr.typeAssert (Value.iface 147 v) xt 147 true).run Tryz.prog w = .ok (.tuple #[v, .bool true]) w := by
  unfold Instr.typeAssert
  simp [go_sem, Tryz.underlying147]
set_option maxRecDepth 100000 in
set_option maxHeartbeats 1000000 in
theorem catch_refused (b : Nat) (x why : Int) (older : List PanicEntry) (w : World) (hc : w.cell? ⟨b, 0, none⟩ = some (.int .i64 x)) (hz : w.frozen? ⟨b, 0, none⟩ = false) (hb : b < w.heap.size) :
    CallsD Tryz.prog 125 #[.pointer (some ⟨b, 0, none⟩)] (.panicking ({ v := .iface 147 (.agg #[.int .i64 why]), recovered := false } :: older)) w fun e u' w' =>
      e = .returned (.tuple #[]) ∧ u' = .panicking ({ v := .iface 147 (.agg #[.int .i64 why]), recovered := true } :: older) ∧ w' = (((w.setCell ⟨b, 0, none⟩ (.int .i64 1)).setCell ⟨b, 0, none⟩ (.int .i64 why)).alloc (.cells #[.int .i64 why] 147)) := by
  have hb' : b < (w.setCell ⟨b, 0, none⟩ (.int .i64 1)).heap.size := by simpa using hb
  have hc2 : ((w.setCell ⟨b, 0, none⟩ (.int .i64 1)).alloc (.cells #[.int .i64 why] 147)).cell? ⟨b, 0, none⟩ = some (.int .i64 1) := by
    rw [World.cell?_alloc_past _ _ _ hb']; simp [go_sem, hc]
  have hz2 : ((w.setCell ⟨b, 0, none⟩ (.int .i64 1)).alloc (.cells #[.int .i64 why] 147)).frozen? ⟨b, 0, none⟩ = false := by
    rw [World.frozen?_alloc_past _ _ _ hb']; simp [go_sem, hz]
  refine callsD_of_wpS Tryz.func125 rfl fun c₀ cs hu => ?_
  apply wpS_seq
  apply wpS_region
  simp [wpOpsS, go_sem, recoverD, hu, Tryz.ntmps125, Exit.thenS]
  apply wpS_seq
  apply wpS_region
  simp [wpOpsS, go_sem, Exit.thenS]
  refine wpS_cond (t := true) (by simp [Act.eval, Array.replicate]) ?_
  simp only [if_true]
  refine wpS_of_wp ?_
  have e : (#[Value.pointer (some ⟨b, 0, none⟩)] ++
                    ((((Array.replicate 14 undef).setIfInBounds 3 (Value.iface 147 (.agg #[.int .i64 why]))).setIfInBounds 0
                              (Value.iface 147 (.agg #[.int .i64 why]))).setIfInBounds
                          4 (Value.iface 147 (.agg #[.int .i64 why]))).setIfInBounds
                      5 (Value.bool true)) = #[.pointer (some ⟨b, 0, none⟩), Value.iface 147 (.agg #[.int .i64 why]), undef, undef, Value.iface 147 (.agg #[.int .i64 why]), Value.iface 147 (.agg #[.int .i64 why]), .bool true, undef, undef, undef, undef, undef, undef, undef, undef] := rfl
  rw [e]
  clear e
  have hta := assert_refused (.agg #[.int .i64 why])
  go_wp2
  simp [bodyPostS, results, Tryz.results125]

theorem cells1 {W : World} {B : Nat} {t : TypeId} {a : Value} (h : W.heap[B]? = some (.cells #[a] t (0, 0))) : W.cell? ⟨B, 0, none⟩ = some a ∧ W.frozen? ⟨B, 0, none⟩ = false := by
  constructor
  · simp [World.cell?, h]
  · simp [World.frozen?, h]
theorem box2' (w : World) (a b : Array Value) (t u : TypeId) : ((w.alloc (.cells a t)).alloc (.cells b u)).heap[w.heap.size]? = some (.cells a t (0, 0)) ∧ ((w.alloc (.cells a t)).alloc (.cells b u)).heap[w.heap.size + 1]? = some (.cells b u (0, 0)) := by
  refine ⟨(Below.heap_alloc _ _ _ (by simp)).trans (World.alloc_heap_new w _), ?_⟩
  have := World.alloc_heap_new (w.alloc (.cells a t)) (.cells b u)
  rwa [World.size_alloc] at this

set_option maxRecDepth 100000 in
set_option maxHeartbeats 1000000 in
theorem Attempt_ok (cap : Array Value) (k n : Int) (s : ByteArray) (a : Option Addr) (len c : Nat) (w : World)
    (h : ∀ W, Below w.heap.size w W → Calls Tryz.prog 82 cap W fun e W' => e = .returned (.agg #[.int .i64 k, .int .i64 n, .string s, .slice a len c]) ∧ Hid (Below W.heap.size W W')) :
    Calls Tryz.prog 73 #[.func (.func 82) #[] cap] w fun e w' => e = .returned (.tuple #[.agg #[.int .i64 k, .int .i64 n, .string s, .slice a len c], .int .i64 0]) ∧ Below w.heap.size w w' := by
  have hmf : ∀ (fn : Fn) (first cap : Array Value) (w : World), (Instr.makeFunc fn first cap).run Tryz.prog w = .ok (.func fn first cap) w := fun _ _ _ _ => rfl
  go_enter_defers Tryz.func73, Tryz.ntmps73
  have h2 : Below w.heap.size w ((w.alloc (.cells #[.int .i64 0, .int .i64 0, .string ⟨#[]⟩, .slice none 0 0] 44)).alloc (.cells #[.int .i64 0] 32)) := ((Below.refl _ _).alloc (Nat.le_refl _) _).alloc (by simp) _
  have HB := Lib.hid h2
  have HH := Lib.hid (h _ h2)
  have HQ := Lib.hid (box2' w #[.int .i64 0, .int .i64 0, .string ⟨#[]⟩, .slice none 0 0] #[.int .i64 0] 44 32)
  clear h h2
  go_wp2_with (go_at_call 82; refine HH.out.mono ?_; rintro e w' ⟨rfl, H1⟩; obtain ⟨⟨b0, b1, b2, b3⟩, ⟨z0, z1, z2, z3⟩⟩ := cells4 ((H1.out.block _ (Array.getElem?_eq_some_iff.1 HQ.out.1).1).trans HQ.out.1); obtain ⟨c0, y0⟩ := cells1 ((H1.out.block _ (Array.getElem?_eq_some_iff.1 HQ.out.2).1).trans HQ.out.2))
  refine leaves_cons (f := 125) (args := #[.pointer (some ⟨w.heap.size + 1, 0, none⟩)]) (by simp) (by simp [go_sem]) ?_
  refine (catch_idle ⟨w.heap.size + 1, 0, none⟩ _).mono ?_
  rintro e u' w'' ⟨rfl, rfl, rfl⟩
  have hs := HB.out.size
  have hb : Below w.heap.size w w' := HB.out.trans (H1.out.mono hs)
  simp [Leaves, settle, results, Tryz.results73, go_sem, b0, b1, b2, b3, c0]
  exact ((((hb.setCell (Nat.le_refl _) _).setCell (Nat.le_refl _) _).setCell (Nat.le_refl _) _).setCell (Nat.le_refl _) _).setCell (by simp) _
end Go.Proofs.YtlbnfokedkpccaaGreat
