/- Operations that make memory, and those that read rows of it. -/
import Derived.Test.YtooppedofcpfeaaGreatDoorEngE
set_option linter.all false
namespace Go.Eng
variable [Shift]
variable {p : Par} {e e' : Env} {H H' : Heap} {w w' : World} {Z : Tab}

/-- A new row that is just what is followed of it. -/
theorem Step.row (h : Rel p e H w) {c : List Value} {el : TypeId} (hu : ∀ v ∈ c, Und H.D v) (hs : H.next + 2 < 2 ^ 40) :
    Step p e H w (e.more H.next w.heap.size 0) (H.new (.cells c el (0, 0) false)) (w.alloc (.cells (c.map (ren e)).toArray el)) := by
  refine Step.alloc h _ _ 0 hu ?_ hs
  refine ⟨#[], el, (0, 0), ?_, fun _ => ⟨rfl, by simp⟩, fun _ => ⟨rfl, .inl rfl⟩, (fun hg => by cases hg)⟩
  rw [map_ren_congr hu (e.more_agree H w.heap.size 0)]
  simp
theorem run_newRow {P : Program} (el : TypeId) (cs : Array Value) (w : World) : (newRow el cs).run P w = .ok ⟨w.heap.size, 0, none⟩ (w.alloc (.cells cs el)) := rfl

/-- What an operation must come to, to be followed by so much. -/
def OutRel (Z : Tab) (p : Par) (e : Env) (H : Heap) (w : World) (s : Sem Next) : Out → Prop
  | .val v d => ∃ e' w', (s.run p.P w = .ok (.value (ren e' v)) w' ∨ (s.run p.P w = .ok .skip w' ∧ v = undef)) ∧ Step p e H w e' (H.app d) w' ∧ Und (H.app d).D v
  | .enter f args => s.run p.P w = .ok (.enter f (args.map (ren e)).toArray) w ∧ (∀ a ∈ args, Und H.D a) ∧ (Z.fn f).isSome = true
  | .round l args => s.run p.P w = (Instr.yield (e.ρ l) (args.map (ren e)).toArray).run p.P w ∧ ∀ a ∈ args, Und H.D a
  | .defer d => s.run p.P w = .ok (.defer (renD e d)) w ∧ DUnd H.D d
  | .recover => s.run p.P w = .ok .recover w
  | .panic v => s.run p.P w = .halt (.panic (ren e v)) w ∧ Und H.D v

/-- A value, memory as it was. -/
theorem OutRel.same (h : Rel p e H w) {s : Sem Next} {v : Value} (hs : s.run p.P w = .ok (.value (ren e v)) w) (hu : Und H.D v) : OutRel Z p e H w s (.val v .same) :=
  ⟨e, w, .inl hs, .refl h, hu⟩
theorem OutRel.of_run {s s' : Sem Next} {o : Out} (h : OutRel Z p e H w s o) (hr : s'.run p.P w = s.run p.P w) : OutRel Z p e H w s' o := by
  cases o <;> simp only [OutRel] at h ⊢ <;> rw [hr] <;> exact h

theorem und_mem_map {n : Nat → Prop} {l : List Value} (h : ∀ v ∈ l, Und n v) {e e' : Env} (ha : Agree n e e') : l.map (ren e) = l.map (ren e') := map_ren_congr h ha

/-! ### Bytes -/
theorem convertA_sound (hZ : TOk Z p) (hR : Rel p e H w) {src dst : TypeId} {x v : Value} (h : convertA Z H src dst x = some v) (hu : Und H.D x) :
    (convert src dst (ren e x)).run p.P w = .ok (ren e v) w ∧ Und H.D v := by
  simp only [convertA, Option.bind_eq_bind, Option.bind_eq_some_iff] at h
  obtain ⟨d1, h1, d2, h2, h⟩ := h
  have u1 := hZ.und _ _ h1
  have u2 := hZ.und _ _ h2
  split at h <;> try (cases h; done)
  · rename_i k k' n
    obtain ⟨hr, hs⟩ := pureOf_run (P := p.P) h w
    refine ⟨?_, und_scalar hs⟩
    rw [ren_scalar hs, ren_int]
    have : (convert src dst (.int k' n)).run p.P w = (Conv.intToInt k n).run p.P w := by simp [convert, r_und u1, r_und u2]
    rw [this, hr]
  · rename_i k' n
    obtain ⟨hr, hs⟩ := pureOf_run (P := p.P) h w
    refine ⟨?_, und_scalar hs⟩
    rw [ren_scalar hs, ren_int]
    have : (convert src dst (.int k' n)).run p.P w = (Conv.intToString n).run p.P w := by simp [convert, r_und u1, r_und u2]
    rw [this, hr]
  · rename_i s
    cases h
    refine ⟨?_, und_string _⟩
    simp [convert, r_und u1, r_und u2]
  · rename_i el a len cap
    simp only [Option.bind_eq_some_iff] at h
    obtain ⟨d3, h3, h⟩ := h
    have u3 := hZ.und _ _ h3
    split at h <;> try (cases h; done)
    split at h
    · cases h
      refine ⟨?_, und_string _⟩
      simp [convert, r_und u1, r_und u2, r_und u3, Conv.bytesToString]
    · rename_i ad
      split at h <;> try (cases h; done)
      rename_i hs
      have hs' : ad.spot = none := by simpa using hs
      simp only [Option.bind_eq_some_iff] at h
      obtain ⟨o, ho, h⟩ := h
      cases o with
      | loop => simp at h
      | deferred => simp at h
      | cells c el2 fz g =>
        simp only [Option.bind_eq_some_iff] at h
        obtain ⟨r, hr, bs, hbs, h⟩ := h
        cases h
        refine ⟨?_, und_string _⟩
        have hl := hR.loadCells hs' ho hr
        have key : ∀ (l : List Value) (bs : List UInt8) (acc : ByteArray), (l.mapM fun | .int .u8 n => some (UInt8.ofNat n.toNat) | _ => none) = some bs →
            (forIn (l.map (ren e)).toArray acc (fun (c : Value) (s : ByteArray) => (match c with
              | .int .u8 n => pure (ForInStep.yield (s.push (UInt8.ofNat n.toNat)))
              | _ => do
                stuck "bytesToString: byte expected"
                pure (ForInStep.yield s) : Sem (ForInStep ByteArray))) : Sem ByteArray).run p.P w = .ok ⟨acc.data ++ bs.toArray⟩ w := by
          intro l
          induction l with
          | nil => intro bs acc hb; simp at hb; subst hb; simp
          | cons x l ih =>
            intro bs acc hb
            simp only [List.mapM_cons, Option.bind_eq_bind, Option.bind_eq_some_iff] at hb
            obtain ⟨b, hb1, bs', hb2, hb3⟩ := hb
            cases hb3
            split at hb1 <;> try (cases hb1; done)
            rename_i n
            cases hb1
            have := ih bs' (acc.push (UInt8.ofNat n.toNat)) hb2
            simp only [List.map_cons, ren_int]
            rw [List.forIn_toArray] at this ⊢
            rw [List.forIn_cons]
            simp only [Sem.run_bind, Sem.run_pure, Result.andThen_ok]
            rw [this]
            congr 2
            apply Array.ext'
            simp [ByteArray.push]
        have := key r bs .empty hbs
        simp only [convert, ren_slice, Sem.run_bind, r_und u1, r_und u2, Result.andThen_ok, r_und u3, Conv.bytesToString]
        rw [hl]
        simp only [Result.andThen_ok]
        refine Eq.trans (congrArg (fun r => Result.andThen r (fun a w' => Sem.run p.P (pure (Value.string a)) w')) this) ?_
        simp

theorem toBytesA_sound (hZ : TOk Z p) (hR : Rel p e H w) (hs : H.next + 2 < 2 ^ 40) {src dst : TypeId} {x v : Value} {d : Delta} (h : toBytesA Z H src dst x = some (v, d)) :
    ∃ e' w', (convert src dst (ren e x)).run p.P w = .ok (ren e' v) w' ∧ Step p e H w e' (H.app d) w' ∧ Und (H.app d).D v := by
  simp only [toBytesA] at h
  split at h <;> try (cases h; done)
  rename_i s
  simp only [Option.bind_eq_bind, Option.bind_eq_some_iff] at h
  obtain ⟨d1, h1, h⟩ := h
  split at h <;> try (cases h; done)
  simp only [Option.bind_eq_some_iff] at h
  obtain ⟨d2, h2, h⟩ := h
  split at h <;> try (cases h; done)
  rename_i el
  simp only [Option.bind_eq_some_iff] at h
  obtain ⟨d3, h3, h⟩ := h
  split at h <;> try (cases h; done)
  simp only [Option.bind_eq_some_iff] at h
  obtain ⟨i, hi, h⟩ := h
  split at h <;> try (cases h; done)
  rename_i hsz
  have hsz' : i.size = 1 := Classical.not_not.1 hsz
  cases h
  -- how much there is, the tape says
  obtain ⟨cap, hcap, hq⟩ : ∃ cap, s.size ≤ cap ∧ (choose (.appendCap s.size 0 el)).run p.P w = .ok cap w.drew := by
    refine ⟨s.size + w.tape w.drawn (.appendCap s.size 0 el) % (2 ^ 63 - s.size), by omega, ?_⟩
    simp [Question.forced, Question.cut]
  have hst := Step.drew hR
  let cells : Array Value := s.data.map fun b => Value.int .u8 b.toNat
  let tail : Array Value := Array.replicate (cap - s.size) (.int .u8 0)
  have hrow : (cells ++ tail).size = cap := by simp [cells, tail]; have : s.data.size = s.size := rfl; omega
  refine ⟨e.more H.next w.drew.heap.size (cap - s.size), w.drew.alloc (.cells (cells ++ tail) el (cap, cap + 1)), ?_, ?_, (und_slice hR.newD)⟩
  · have hmark : ∀ W : World, W.heap.size = w.heap.size → (markStringish ⟨w.heap.size, 0, none⟩).run p.P (W.alloc (.cells (cells ++ tail) el)) = .ok () (W.alloc (.cells (cells ++ tail) el (cap, cap + 1))) := by
      intro W hW
      have hsh : (W.alloc (.cells (cells ++ tail) el)).shape? w.heap.size = some (el, cap) := by
        simp only [World.shape?, alloc_heap, ← hW]
        simp [hrow]
      simp only [markStringish, Sem.run_bind, run_shape, hsh, Result.andThen_ok, run_freeze, World.freeze]
      simp only [Nat.succ_ne_zero, if_false, alloc_heap]
      congr 1
      simp only [World.alloc]
      congr 1
      apply Array.ext_getElem?
      intro k
      rw [Array.getElem?_modify, Array.getElem?_push, Array.getElem?_push, ← hW]
      by_cases hk : W.heap.size = k
      · subst hk; simp
      · rw [if_neg hk]
        simp [Ne.symm hk]
    simp only [convert, ren_string, Sem.run_bind, r_und (hZ.und _ _ h1), r_und (hZ.und _ _ h2), Result.andThen_ok, r_und (hZ.und _ _ h3), Conv.stringToBytes, hq]
    rw [show newRow el ((s.data.map fun b => Value.int .u8 b.toNat) ++ Array.replicate (cap - s.size) (.int .u8 0)) = newRow el (cells ++ tail) from rfl]
    simp only [run_newRow, Result.andThen_ok, World.size_drew]
    rw [hmark w.drew rfl]
    simp only [Result.andThen_ok, Sem.run_pure, ren_slice, Env.addr, hR.shiftN hR.nxt, Nat.add_zero, Env.more_ρ, Env.more_σ, World.size_drew]
    congr 2
    omega
  · refine hst.trans (Step.alloc hR.drew _ _ _ ?_ ?_ hs)
    · intro u hu
      obtain ⟨b, _, rfl⟩ := List.mem_map.1 hu
      exact und_int _ _
    · refine ⟨tail, el, (cap, cap + 1), ?_, (fun hg => by cases hg), fun _ => ⟨rfl, .inr ⟨?_, ?_, ?_⟩⟩, fun _ => ⟨i, hZ.info _ _ hi, by simp [tail, hsz']⟩⟩
      · congr 1
        apply Array.ext'
        simp [cells]
      · simp
      · simp
      · simp; exact hcap
end Go.Eng
