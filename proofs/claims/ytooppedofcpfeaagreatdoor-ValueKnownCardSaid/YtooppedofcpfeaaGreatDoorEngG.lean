/- append, copy. -/
import Derived.Test.YtooppedofcpfeaaGreatDoorEngF
set_option linter.all false
namespace Go.Eng
variable [Shift]
variable {p : Par} {e e' : Env} {H H' : Heap} {w w' : World} {Z : Tab}

theorem growBy_le (newLen : Nat) : ∀ (r c : Nat), Builtin.growBy newLen r c ≤ max c (newLen + (newLen + 768) / 4)
  | 0, c => by simp [Builtin.growBy]; omega
  | r + 1, c => by
    simp only [Builtin.growBy]
    split
    · omega
    · have := growBy_le newLen r (c + (c + 768) / 4)
      omega
theorem nextslicecap_le {need c : Nat} (h : c < need) : Builtin.nextslicecap need c ≤ 2 * need + 1024 := by
  simp only [Builtin.nextslicecap]
  split
  · omega
  · split
    · omega
    · have := growBy_le need 4 c
      omega

theorem putCells_eq : ∀ (vs L : List Value) (k : Nat), k + vs.length ≤ L.length → putCells L k vs = L.take k ++ vs ++ L.drop (k + vs.length)
  | [], L, k, _ => by simp [putCells]
  | v :: vs, L, k, h => by
    simp only [List.length_cons] at h
    simp only [putCells]
    rw [putCells_eq vs (L.set k v) (k + 1) (by simp; omega)]
    have h1 : (L.set k v).take (k + 1) = L.take k ++ [v] := by
      rw [List.take_succ_eq_append_getElem (by simp; omega), List.take_set_of_le (Nat.le_refl _)]
      simp
    rw [h1, List.drop_set_of_lt (by omega)]
    simp [Nat.add_assoc, Nat.add_comm 1]

theorem lenOfA_sound {P : Program} {x : Value} {n : Nat} (h : lenOfA x = some n) : (Builtin.lenOf (ren e x)).run P w = .ok n w := by
  cases x with
  | slice a l c => cases a <;> (simp only [lenOfA, Option.some.injEq] at h; subst h; simp [Builtin.lenOf])
  | string s => simp only [lenOfA, Option.some.injEq] at h; subst h; simp [Builtin.lenOf]
  | _ => simp [lenOfA] at h

theorem firstCellsA_sound (hR : Rel p e H w) {size n : Nat} {x : Value} {r : List Value} (h : firstCellsA H size n x = some r) (hu : Und H.D x) :
    (Builtin.firstCells size n (ren e x)).run p.P w = .ok (r.map (ren e)).toArray w ∧ (∀ v ∈ r, Und H.D v) := by
  unfold firstCellsA at h
  split at h
  · rename_i a l c
    split at h <;> try (cases h; done)
    rename_i hs
    split at h <;> try (cases h; done)
    rename_i cs el fz g ho
    refine ⟨?_, fun v hv => hR.und _ _ ho v (takeN_mem h v hv)⟩
    simp [Builtin.firstCells, hR.loadCells (by simpa using hs) ho h]
  · split at h <;> try (cases h; done)
    cases h
    exact ⟨by simp [Builtin.firstCells], fun v hv => by cases hv⟩
  · rename_i s
    cases h
    refine ⟨?_, fun v hv => by obtain ⟨b, _, rfl⟩ := List.mem_map.1 hv; exact und_int _ _⟩
    have hf : (ren e ∘ fun b : UInt8 => Value.int .u8 b.toNat) = fun b : UInt8 => Value.int .u8 b.toNat := by funext b; simp
    simp only [ren_string, Builtin.firstCells, Sem.run_pure, List.map_map, hf]
    congr 1
    apply Array.ext'
    simp
  · cases h

theorem appendCap_run {P : Program} (w : World) (need old : Nat) (el : TypeId) : ∃ cap, need ≤ cap ∧ (choose (.appendCap need old el)).run P w = .ok cap w.drew := by
  refine ⟨need + w.tape w.drawn (.appendCap need old el) % (2 ^ 63 - need), by omega, ?_⟩
  simp only [run_choose, Question.forced, Question.cut, Bool.false_eq_true, if_false]
  rfl

theorem zeroCells_size (zero : Array Value) (n : Nat) : (Builtin.zeroCells zero n).size = n * zero.size := by simp [Builtin.zeroCells]

section
variable {P : Program} {argTypes : Array TypeId} {ty st el : TypeId} {i : TypeInfo} {base : Option Addr} {sLen sCap n : Nat} {x : Value} {new : Array Value}
theorem notInt_cases {d : TypeDesc} (h : notInt (some d) = true) : (∃ e, d = .slice e) ∨ d = .string := by
  unfold notInt at h
  split at h
  · rename_i heq; cases heq; exact .inl ⟨_, rfl⟩
  · rename_i heq; cases heq; exact .inr rfl
  · cases h

/-- 'append' where there is room: the new cells are stored. -/
theorem append_fits {W W' : World} (h0 : argTypes[0]? = some st)
    (hst : P.underlying st = some (.slice el)) (hi : P.info? el = some i) (hx : ∀ xt, argTypes[1]? = some xt → ∃ d, P.underlying xt = some d ∧ notInt (some d) = true)
    (hn : ∀ W, (Builtin.lenOf x).run P W = .ok n W) (hle : sLen + n ≤ sCap) (hnew : (Builtin.firstCells i.size n x).run P W = .ok new W)
    (hstore : match base with | some a => (storeCells (a.add (sLen * i.size)) new.toList).run P W = .ok () W' | none => W' = W) :
    (Builtin.append_ argTypes ty #[.slice base sLen sCap, x]).run P W = .ok (.slice base (sLen + n) sCap) W' := by
  unfold Builtin.append_
  simp only [h0, Sem.run_bind, r_und hst, r_size hi, Result.andThen_ok, List.getElem?_toArray, List.getElem?_cons_zero, List.getElem?_cons_succ]
  cases h1 : argTypes[1]? with
  | none =>
    simp only [Sem.run_bind, Sem.run_pure, Result.andThen_ok, Bool.false_eq_true, if_false, hn, hle, if_true, Bool.not_false, hnew]
    cases base with
    | none => simp only at hstore; subst hstore; rfl
    | some a => simp only at hstore ⊢; simp only [Sem.run_bind, hstore, Result.andThen_ok, Sem.run_pure]
  | some xt =>
    obtain ⟨d, hd, hni⟩ := hx xt h1
    rcases notInt_cases hni with ⟨e, rfl⟩ | rfl
    all_goals
      simp only [Sem.run_bind, Sem.run_pure, r_und hd, Result.andThen_ok, Bool.false_eq_true, if_false, hn, hle, if_true, Bool.not_false, hnew]
      cases base with
      | none => simp only at hstore; subst hstore; rfl
      | some a => simp only at hstore ⊢; simp only [Sem.run_bind, hstore, Result.andThen_ok, Sem.run_pure]

/-- 'append' where there is no room: a new row, as long as the tape says. -/
theorem append_grows {W : World} {zero : Value} {old : Array Value} (h0 : argTypes[0]? = some st)
    (hst : P.underlying st = some (.slice el)) (hi : P.info? el = some i) (hz : i.zero = some zero) (hx : ∀ xt, argTypes[1]? = some xt → ∃ d, P.underlying xt = some d ∧ notInt (some d) = true)
    (hn : ∀ W, (Builtin.lenOf x).run P W = .ok n W) (hlt : sCap < sLen + n) (hbig : (2 * (sLen + n) + 1024) * i.bytes ≤ 2 ^ 47) (hneed : sLen + n ≤ 2 ^ 40)
    (hnew : (Builtin.firstCells i.size n x).run P W.drew = .ok new W.drew) (hold : (Builtin.firstCells i.size sLen (.slice base sLen sCap)).run P W.drew = .ok old W.drew) :
    ∃ cap, sLen + n ≤ cap ∧ (Builtin.append_ argTypes ty #[.slice base sLen sCap, x]).run P W = .ok (.slice (some ⟨W.heap.size, 0, none⟩) (sLen + n) cap)
      (W.drew.alloc (.cells (old ++ new ++ Builtin.zeroCells zero.cells (cap - (sLen + n))) el)) := by
  obtain ⟨cap, hcap, hq⟩ := appendCap_run (P := P) W (sLen + n) sCap el
  refine ⟨cap, hcap, ?_⟩
  have h1 : ¬ (((sLen + n : Nat) : Int) > IntKind.i64.max) := by rw [IntKind.max_i64]; omega
  have h2 : ¬ (Builtin.nextslicecap (sLen + n) sCap * i.bytes > 2 ^ 48) := by
    have := nextslicecap_le hlt
    have := Nat.mul_le_mul_right i.bytes this
    omega
  have h3 : ¬ (sLen + n ≤ sCap) := by omega
  unfold Builtin.append_
  simp only [h0, Sem.run_bind, r_und hst, r_size hi, Result.andThen_ok, List.getElem?_toArray, List.getElem?_cons_zero, List.getElem?_cons_succ]
  cases h1' : argTypes[1]? with
  | none =>
    simp only [Sem.run_bind, Sem.run_pure, Result.andThen_ok, Bool.false_eq_true, if_false, hn, h3, r_info hi, h1, false_and, h2, hq, run_askRoom, hold, Bool.not_false, if_true, hnew, r_zero hi hz, run_newRow, World.size_drew]
  | some xt =>
    obtain ⟨d, hd, hni⟩ := hx xt h1'
    rcases notInt_cases hni with ⟨e, rfl⟩ | rfl
    all_goals simp only [Sem.run_bind, Sem.run_pure, r_und hd, Result.andThen_ok, Bool.false_eq_true, if_false, hn, h3, r_info hi, h1, false_and, h2, hq, run_askRoom, hold, Bool.not_false, if_true, hnew, r_zero hi hz,
      run_newRow, World.size_drew]
end

end Go.Eng
