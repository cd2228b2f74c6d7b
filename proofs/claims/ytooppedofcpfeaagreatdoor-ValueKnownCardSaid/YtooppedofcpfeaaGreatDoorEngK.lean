/- Calls; and each operation. -/
import Derived.Test.YtooppedofcpfeaaGreatDoorEngJ
set_option linter.all false
namespace Go.Eng
variable [Shift]
variable {p : Par} {e e' : Env} {H H' : Heap} {w w' : World} {Z : Tab}

theorem callFuncA_sound (hZ : TOk Z p) (hR : Rel p e H w) {f : FuncId} {args : List Value} {o : Out} (h : callFuncA Z H f args = some o) (hu : ∀ a ∈ args, Und H.D a) :
    OutRel Z p e H w (callFunc f (args.map (ren e)).toArray) o := by
  simp only [callFuncA] at h
  split at h
  · rename_i fn hf
    cases h
    obtain ⟨h1, ⟨c, hb, _⟩, h3⟩ := hZ.fn f fn hf
    refine ⟨?_, hu, by rw [hf]; rfl⟩
    simp only [callFunc, Sem.run_bind, run_program, Result.andThen_ok, h1]
    rw [if_neg (by rw [h3]; simp), if_neg (by simp [hb])]
    rfl
  · split at h <;> try (cases h; done)
    · rename_i s c hx
      cases h
      refine OutRel.same hR ?_ ?_
      · simp only [List.map_cons, List.map_nil, ren_string, ren_int]
        rw [hZ.idx f hx]
        generalize List.find? _ _ = q
        cases q <;> simp [goInt]
      · split <;> exact und_int _ _
    · rename_i a b hx
      cases h
      refine OutRel.same hR ?_ (und_int _ _)
      simp only [List.map_cons, List.map_nil, ren_string]
      rw [hZ.cmp f hx]
      simp [goInt]

theorem callMethodA_sound (hZ : TOk Z p) (hR : Rel p e H w) {recv : Value} {name : String} {args : List Value} {o : Out} (h : callMethodA Z H recv name args = some o) (hr : Und H.D recv) (hu : ∀ a ∈ args, Und H.D a) :
    OutRel Z p e H w (callMethod (ren e recv) name (args.map (ren e)).toArray) o := by
  simp only [callMethodA] at h
  split at h <;> try (cases h; done)
  rename_i t v
  simp only [Option.bind_eq_bind, Option.bind_eq_some_iff] at h
  obtain ⟨i, hi, m, hm, h⟩ := h
  split at h <;> try (cases h; done)
  rename_i hp
  simp only [Option.bind_eq_some_iff] at h
  obtain ⟨⟨f, b⟩, hf, h⟩ := h
  split at h <;> try (cases h; done)
  rename_i f heq
  cases heq
  simp only [Option.bind_eq_some_iff] at h
  obtain ⟨d, hd, h⟩ := h
  split at h <;> try (cases h; done)
  rename_i hnp
  have hcall := callFuncA_sound hZ hR h (by intro a ha; rcases List.mem_cons.1 ha with rfl | ha; exact und_iface_inv hr; exact hu a ha)
  refine hcall.of_run ?_
  have hpath : m.path = #[] := by simpa using hp
  have hmeth : (method (p.P.types.size + Made.depth) t (ren e v) name).run p.P w = .ok (f, ren e v) w := by
    rw [show p.P.types.size + Made.depth = (p.P.types.size + 99) + 1 from rfl, method]
    simp only [Sem.run_bind, r_info (hZ.info _ _ hi), Result.andThen_ok, hm, hpath, follow, Sem.run_pure, hf]
    have hud := hZ.und _ _ hd
    have : (receiverAt t (.val (ren e v)) false (if (#[] : Array FieldStep).isEmpty = true then some ((name.splitOn ".").getLastD name) else none)).run p.P w = .ok (ren e v) w := by
      simp only [receiverAt, Sem.run_bind, r_und hud, Result.andThen_ok]
      cases d <;> first | (simp [Place.get]; done) | (simp at hnp; done)
    rw [this]
    rfl
  simp only [ren_iface, callMethod, Sem.run_bind, run_program, Result.andThen_ok, hmeth]
  simp

theorem renFn_func (f : FuncId) : renFn e (.func f) = .func f := rfl

theorem builtinA_sound (hZ : TOk Z p) (hR : Rel p e H w) (hs : H.next + 2 < 2 ^ 40) {b : Builtin} {ts : Array TypeId} {ty : TypeId} {cs : Array Bool} {args : List Value} {o : Out} (h : builtinA Z H b ts args = some o)
    (hu : ∀ a ∈ args, Und H.D a) : OutRel Z p e H w (builtin b ts ty cs (args.map (ren e)).toArray) o := by
  simp only [builtinA] at h
  split at h
  · rename_i x
    simp only [Option.bind_eq_bind, Option.bind_eq_some_iff] at h
    obtain ⟨t, ht, d, hd, h⟩ := h
    have hud := hZ.und _ _ hd
    split at h <;> try (cases h; done)
    · cases h
      refine OutRel.same hR ?_ (und_int _ _)
      simp [builtin, Builtin.len_, ht, r_und hud, goInt]
    · rename_i el a n c
      cases h
      refine OutRel.same hR ?_ (und_int _ _)
      cases a <;> simp [builtin, Builtin.len_, ht, r_und hud, goInt]
    · cases h
      refine OutRel.same hR ?_ (und_int _ _)
      simp [builtin, Builtin.len_, ht, r_und hud, goInt]
  · rename_i s x
    simp only [Option.map_eq_some_iff] at h
    obtain ⟨⟨v, d⟩, hr, rfl⟩ := h
    obtain ⟨e', w', hrun, hstep, hv⟩ := appendA_sound (ty := ty) hZ hR hs hr (hu s (by simp)) (hu x (by simp))
    exact ⟨e', w', .inl (by simp [builtin, hrun]), hstep, hv⟩
  · rename_i s x
    simp only [Option.map_eq_some_iff] at h
    obtain ⟨⟨v, d⟩, hr, rfl⟩ := h
    obtain ⟨w', hrun, hstep, hv⟩ := copyA_sound (ty := ty) hZ hR hr (hu x (by simp))
    exact ⟨e, w', .inl (by simp [builtin, hrun]), hstep, hv⟩
  · cases h
    refine OutRel.same hR ?_ (und_int _ _)
    simp [builtin, Builtin.min_, Builtin.min2]
  · cases h
    refine OutRel.same hR ?_ (und_int _ _)
    simp [builtin, Builtin.max_, Builtin.max2]
  · cases h
    simp [OutRel, builtin]
  · rename_i a n
    simp only [Option.map_eq_some_iff] at h
    obtain ⟨⟨v, d⟩, hr, rfl⟩ := h
    obtain ⟨w', hrun, hstep, hv⟩ := unsafeStrA_sound (ty := ty) hZ hR hr
    exact ⟨e, w', .inl (by simp [builtin, hrun]), hstep, hv⟩
  · cases h

/-- What a target must be, to be followed. -/
def TUnd' (n : Nat → Prop) (t : Target) : Prop := ∀ e e', Agree n e e' → renT e t = renT e' t

theorem invokeA_sound (hZ : TOk Z p) (hR : Rel p e H w) (hs : H.next + 2 < 2 ^ 40) {t : Target} {args : List Value} {o : Out} (h : invokeA Z H t args = some o) (ht : ∀ f c, t = .fn f c → ∀ v ∈ c, Und H.D v)
    (hu : ∀ a ∈ args, Und H.D a) : OutRel Z p e H w (invoke (renT e t) (args.map (ren e)).toArray) o := by
  simp only [invokeA] at h
  split at h
  · exact builtinA_sound hZ hR hs h hu
  · rename_i f cap
    have := callFuncA_sound hZ hR h (by
      intro a ha
      rcases List.mem_append.1 ha with ha | ha
      · exact hu a ha
      · exact ht _ _ rfl a (by simpa using ha))
    refine this.of_run ?_
    simp only [renT, renFn_func, invoke]
    congr 2
    apply Array.ext'
    simp
  · split at h <;> try (cases h; done)
    rename_i r rest
    have := callMethodA_sound hZ hR h (hu r (by simp)) (fun a ha => hu a (by simp [ha]))
    refine this.of_run ?_
    have htk : (rest.map (ren e)).take rest.length = rest.map (ren e) := List.take_of_length_le (by simp)
    simp [renT, renFn, invoke, htk]
  · split at h <;> try (cases h; done)
    rename_i t name _ r rest
    simp only [Option.bind_eq_bind, Option.bind_eq_some_iff] at h
    obtain ⟨d, hd, h⟩ := h
    have hud := hZ.und _ _ hd
    have htk : (rest.map (ren e)).take rest.length = rest.map (ren e) := List.take_of_length_le (by simp)
    split at h
    · have := callMethodA_sound hZ hR h (hu r (by simp)) (fun a ha => hu a (by simp [ha]))
      refine this.of_run ?_
      simp [renT, renFn, invoke, r_und hud, htk]
    · rename_i hni
      have := callMethodA_sound hZ hR h (und_iface (hu r (by simp))) (fun a ha => hu a (by simp [ha]))
      refine this.of_run ?_
      simp only [renT, renFn, invoke, List.map_cons, List.getElem?_toArray, List.getElem?_cons_zero, Sem.run_bind, r_und hud, Result.andThen_ok]
      cases d <;> first | exact (hni _ rfl).elim | skip
      all_goals simp [htk]
  · rename_i l _
    cases h
    refine ⟨?_, hu⟩
    simp [renT, renFn, invoke]
  · cases h
end Go.Eng
