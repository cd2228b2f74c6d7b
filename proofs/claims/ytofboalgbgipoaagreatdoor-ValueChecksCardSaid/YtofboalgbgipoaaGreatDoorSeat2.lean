import Derived.Test.YtofboalgbgipoaaGreatDoorSeat1
import Derived.Test.YtofboalgbgipoaaGreatDoorCards
import Derived.Test.YtofboalgbgipoaaGreatDoorTie
import Derived.MakeChecks
set_option linter.all false
namespace Go.Proofs.YtofboalgbgipoaaGreatDoor
open Go.Eng Go.ChangeShapes
theorem row187 (u : TypeId) (h : Tryz.prog.typeName? 3 u = some "*errors.errorString") : u = 149 :=
  typeName_ptr_named (nm := "errors.errorString") (by rw [show "*" ++ "errors.errorString" = "*errors.errorString" by decide]; kernel_rfl) (by kernel_rfl) (by decide) u (by rw [show "*" ++ "errors.errorString" = "*errors.errorString" by decide]; exact h)
theorem var_block {P : Program} {w : World} {n : String} {g : Nat} {cs : Array Value} (hg : P.globalNamed n = some g) (h : w.var? P n = some cs) : ∃ el fz, w.heap[g]? = some (.cells cs el fz) := by
  unfold World.var? at h
  rw [hg] at h
  simp only [Option.bind_some] at h
  split at h
  · rename_i c el fz hc
    cases h
    exact ⟨el, fz, hc⟩
  · cases h

/-- What the list gives, cell by cell. -/
def LaidCells (W : World) : Prop :=
    (∃ el fz, W.heap[0]? = some (.cells lcells0.toArray el fz)) ∧
    (∃ a el fz, W.heap[2]? = some (.cells #[.iface 149 (.pointer (some a))] el fz) ∧ (W.cell? a).isSome = true) ∧
    (∃ a el fz, W.heap[3]? = some (.cells #[.iface 149 (.pointer (some a))] el fz) ∧ (W.cell? a).isSome = true) ∧
    (∃ el fz, W.heap[4]? = some (.cells lcells4.toArray el fz)) ∧
    (∃ el fz, W.heap[5]? = some (.cells lcells5.toArray el fz)) ∧
    (∃ el fz, W.heap[6]? = some (.cells lcells6.toArray el fz))
set_option maxRecDepth 100000 in
/-- What the list gives, cell by cell. -/
theorem laid_cells {W : World} (h : laidMetH Tryz.prog Rows.valueLeastRow.laid W) :
    LaidCells W := by
  rw [MakeChecks.laidMetH_plain _ _ _ (by kernel_rfl)] at h
  obtain ⟨ps, ⟨g1, t1, c1, f1, p1, q1, hg1, ht1, hv1, hd1, ⟨g2, t2, c2, f2, p2, q2, hg2, ht2, hv2, hd2, ⟨g3, t3, c3, f3, p3, q3, hg3, ht3, hv3, hd3, ⟨g4, t4, c4, f4, p4, q4, hg4, ht4, hv4, hd4, ⟨g5, t5, c5, f5, p5, q5, hg5, ht5, hv5, hd5, ⟨g6, t6, c6, f6, p6, q6, hg6, ht6, hv6, hd6, hq6, e6⟩, e5⟩, e4⟩, e3⟩, e2⟩, e1⟩, _, hrows⟩ := h
  obtain rfl := Option.some.inj ((show Tryz.prog.globalNamed "math/bits.deBruijn32tab" = some 5 by kernel_rfl).symm.trans hg1)
  obtain rfl := Option.some.inj ((show Tryz.prog.globalNamed "math/bits.deBruijn64tab" = some 6 by kernel_rfl).symm.trans hg2)
  obtain rfl := Option.some.inj ((show Tryz.prog.globalNamed "internal/strconv.uint64pow10" = some 4 by kernel_rfl).symm.trans hg3)
  obtain rfl := Option.some.inj ((show Tryz.prog.globalNamed "strconv.ErrRange" = some 3 by kernel_rfl).symm.trans hg4)
  obtain rfl := Option.some.inj ((show Tryz.prog.globalNamed "strconv.ErrSyntax" = some 2 by kernel_rfl).symm.trans hg5)
  obtain rfl := Option.some.inj ((show Tryz.prog.globalNamed "deltaworks/value.frames" = some 0 by kernel_rfl).symm.trans hg6)
  obtain rfl := Option.some.inj ((show (Tryz.prog.globals[5]?).map (·.type) = some 159 by kernel_rfl).symm.trans ht1)
  obtain rfl := Option.some.inj ((show (Tryz.prog.globals[6]?).map (·.type) = some 160 by kernel_rfl).symm.trans ht2)
  obtain rfl := Option.some.inj ((show (Tryz.prog.globals[4]?).map (·.type) = some 154 by kernel_rfl).symm.trans ht3)
  obtain rfl := Option.some.inj ((show (Tryz.prog.globals[3]?).map (·.type) = some 122 by kernel_rfl).symm.trans ht4)
  obtain rfl := Option.some.inj ((show (Tryz.prog.globals[2]?).map (·.type) = some 122 by kernel_rfl).symm.trans ht5)
  obtain rfl := Option.some.inj ((show (Tryz.prog.globals[0]?).map (·.type) = some 104 by kernel_rfl).symm.trans ht6)
  have k1 := flatD_sound 5 _ _ _ _ _ lcells5 hd1 (by kernel_rfl) (by kernel_rfl)
  have k2 := flatD_sound 5 _ _ _ _ _ lcells6 hd2 (by kernel_rfl) (by kernel_rfl)
  have k3 := flatD_sound 5 _ _ _ _ _ lcells4 hd3 (by kernel_rfl) (by kernel_rfl)
  have k6 := flatD_sound 5 _ _ _ _ _ lcells0 hd6 (by kernel_rfl) (by kernel_rfl)
  have arr : ∀ {c : Array Value} {l : List Value}, c.toList = l → c = l.toArray := fun h => by rw [← h]
  have sent : ∀ {g f : Nat} {c : Array Value} {n : String} {text : List UInt8} {p : List MemPlace}, Tryz.prog.globalNamed n = some g → W.var? Tryz.prog n = some c → (∀ u v, c = #[.iface u v] → MemPlace.cell g 0 ∈ ps) →
      DataW.trod (fun _ => ()) Tryz.prog W 0 (fun _ => true) false f 122 c.toList = some (.iface "*errors.errorString" (.ptr (.agg [.lit (.string text)])), p) → ∃ a el fz, W.heap[g]? = some (.cells #[.iface 149 (.pointer (some a))] el fz) ∧ (W.cell? a).isSome = true := by
    intro g f c n text p hg hv hin hd
    have ok0 : ∀ u v, c.toList = [.iface u v] → Value.okWide Tryz.prog W .any 0 u v := fun u v e => by
      have : c = #[.iface u v] := arr e
      subst this
      exact (hrows g 0 (hin _ _ rfl)).2 u v (by simpa using World.var?_cell hg hv 0)
    obtain ⟨a0, s0, hc, hc0, hs0, hz0, _⟩ := errorString_of_trod Tryz.underlying122 row187 Tryz.underlying149 Tryz.underlying151 rfl rfl Tryz.underlying9 (by kernel_rfl) (by kernel_rfl) hd ok0
    obtain ⟨el, fz, hb⟩ := var_block hg hv
    rw [arr hc] at hb
    exact ⟨a0, el, fz, hb, by rw [hc0]; rfl⟩
  obtain ⟨el1, fz1, b1⟩ := var_block hg1 hv1
  rw [arr k1] at b1
  obtain ⟨el2, fz2, b2⟩ := var_block hg2 hv2
  rw [arr k2] at b2
  obtain ⟨el3, fz3, b3⟩ := var_block hg3 hv3
  rw [arr k3] at b3
  have s4 := sent hg4 hv4 (fun u v hc => by rw [e1, e2, e3, e4, hc]; simp [MemPlace.row]) hd4
  have s5 := sent hg5 hv5 (fun u v hc => by rw [e1, e2, e3, e4, e5, hc]; simp [MemPlace.row]) hd5
  obtain ⟨el6, fz6, b6⟩ := var_block hg6 hv6
  rw [arr k6] at b6
  exact ⟨⟨_, _, b6⟩, s5, s4, ⟨_, _, b3⟩, ⟨_, _, b1⟩, ⟨_, _, b2⟩⟩
/-- What lies there still lies there. -/
theorem laid_keep {W W' : World} (h : LaidCells W) (hb : Go.RowKit.Below W.heap.size W W') : LaidCells W' := by
  obtain ⟨⟨el0, fz0, b0⟩, ⟨a2, el2, fz2, b2, c2⟩, ⟨a3, el3, fz3, b3, c3⟩, ⟨el4, fz4, b4⟩, ⟨el5, fz5, b5⟩, ⟨el6, fz6, b6⟩⟩ := h
  have k : ∀ {b : Nat} {c : Array Value} {el : TypeId} {fz : Nat × Nat}, W.heap[b]? = some (.cells c el fz) → W'.heap[b]? = some (.cells c el fz) := fun h => (hb.block _ (Array.getElem?_eq_some_iff.1 h).1).trans h
  have kc : ∀ {a : Addr}, (W.cell? a).isSome = true → (W'.cell? a).isSome = true := by
    intro a ha
    have hlt : a.block < W.heap.size := by
      unfold World.cell? at ha
      split at ha
      · rename_i hh; exact (Array.getElem?_eq_some_iff.1 hh).1
      · cases ha
    rw [hb.cell (p := a) hlt]; exact ha
  exact ⟨⟨_, _, k b0⟩, ⟨_, _, _, k b2, kc c2⟩, ⟨_, _, _, k b3, kc c3⟩, ⟨_, _, k b4⟩, ⟨_, _, k b5⟩, ⟨_, _, k b6⟩⟩
end Go.Proofs.YtofboalgbgipoaaGreatDoor
