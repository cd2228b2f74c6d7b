/- The table of the operations, and what an operation makes of two values. -/
import Derived.Test.YtlbnfokedkpccaaGreatCalc
set_option linter.all false
namespace Go.Proofs.YtlbnfokedkpccaaGreat
open Go.RowKit Go.Shelf
attribute [local go_sem] Oper.semAt_some
theorem run_store_fn {P : Program} {w : World} {a : Addr} {m : Mode} (f : Fn) (x y : Array Value) : (store a (.func f x y) m).run P w = stored P w a (.func f x y) m := run_store P w a _ m rfl
attribute [local go_sem] run_store_fn

def opTab : Value := .agg #[.func (.func 162) #[] #[], .func (.func 163) #[] #[], .func (.func 164) #[] #[], .func (.func 165) #[] #[], .func (.func 166) #[] #[], .func (.func 167) #[] #[], .func (.func 168) #[] #[], .func (.func 169) #[] #[], .func (.func 170) #[] #[], .func (.func 171) #[] #[], .func (.func 172) #[] #[], .func (.func 174) #[] #[]]
set_option maxRecDepth 100000 in
set_option maxHeartbeats 1000000 in
theorem wordOps_any (w : World) : Calls Tryz.prog 133 #[] w fun e w' => e = .returned opTab ∧ Below w.heap.size w w' := by
  go_enter Tryz.func133, Tryz.ntmps133
  go_wp2
  refine ⟨rfl, opTab, ?_, rfl, ?_⟩
  · simp [results, Tryz.f133, go_sem, opTab]
  · exact (Below.refl _ _).alloc (Nat.le_refl _) _
theorem opField (F : FuncId) (w : World) : (Instr.field 173 (.agg #[.func (.func F) #[] #[]]) 0).run Tryz.prog w = .ok (.func (.func F) #[] #[]) w := by
  simp [Instr.field, go_sem, asAgg]
theorem opTab_0 (w : World) : (Instr.index 174 opTab (.int .i64 0)).run Tryz.prog w = .ok (.agg #[.func (.func 162) #[] #[]]) w := by
  unfold opTab
  simp [Instr.index, go_sem]
theorem opTab_1 (w : World) : (Instr.index 174 opTab (.int .i64 1)).run Tryz.prog w = .ok (.agg #[.func (.func 163) #[] #[]]) w := by
  unfold opTab
  simp [Instr.index, go_sem]
theorem opTab_2 (w : World) : (Instr.index 174 opTab (.int .i64 2)).run Tryz.prog w = .ok (.agg #[.func (.func 164) #[] #[]]) w := by
  unfold opTab
  simp [Instr.index, go_sem]
theorem opTab_3 (w : World) : (Instr.index 174 opTab (.int .i64 3)).run Tryz.prog w = .ok (.agg #[.func (.func 165) #[] #[]]) w := by
  unfold opTab
  simp [Instr.index, go_sem]
theorem opTab_4 (w : World) : (Instr.index 174 opTab (.int .i64 4)).run Tryz.prog w = .ok (.agg #[.func (.func 166) #[] #[]]) w := by
  unfold opTab
  simp [Instr.index, go_sem]
theorem opTab_5 (w : World) : (Instr.index 174 opTab (.int .i64 5)).run Tryz.prog w = .ok (.agg #[.func (.func 167) #[] #[]]) w := by
  unfold opTab
  simp [Instr.index, go_sem]
theorem opTab_6 (w : World) : (Instr.index 174 opTab (.int .i64 6)).run Tryz.prog w = .ok (.agg #[.func (.func 168) #[] #[]]) w := by
  unfold opTab
  simp [Instr.index, go_sem]
theorem opTab_7 (w : World) : (Instr.index 174 opTab (.int .i64 7)).run Tryz.prog w = .ok (.agg #[.func (.func 169) #[] #[]]) w := by
  unfold opTab
  simp [Instr.index, go_sem]
theorem opTab_8 (w : World) : (Instr.index 174 opTab (.int .i64 8)).run Tryz.prog w = .ok (.agg #[.func (.func 170) #[] #[]]) w := by
  unfold opTab
  simp [Instr.index, go_sem]
theorem opTab_9 (w : World) : (Instr.index 174 opTab (.int .i64 9)).run Tryz.prog w = .ok (.agg #[.func (.func 171) #[] #[]]) w := by
  unfold opTab
  simp [Instr.index, go_sem]
theorem opTab_10 (w : World) : (Instr.index 174 opTab (.int .i64 10)).run Tryz.prog w = .ok (.agg #[.func (.func 172) #[] #[]]) w := by
  unfold opTab
  simp [Instr.index, go_sem]
theorem opTab_11 (w : World) : (Instr.index 174 opTab (.int .i64 11)).run Tryz.prog w = .ok (.agg #[.func (.func 174) #[] #[]]) w := by
  unfold opTab
  simp [Instr.index, go_sem]
end Go.Proofs.YtlbnfokedkpccaaGreat
