/- How a frame leaves. -/
import Derived.Test.YtooppedofcpfeaaGreatDoorEngO
set_option linter.all false
namespace Go.Eng
variable [Shift]
variable {p : Par} {e e' e'' : Env} {H H' : Heap} {w w' w'' : World} {Z : Tab}

theorem mapM_run {P : Program} {D : Nat → Prop} {f : ResultVar → Sem Value} {g : ResultVar → Option Value} (hfg : ∀ r v, g r = some v → (f r).run P w = .ok (ren e v) w ∧ Und D v) :
    ∀ (l : List ResultVar) (vs : List Value), l.mapM g = some vs → (l.mapM f).run P w = .ok (vs.map (ren e)) w ∧ (∀ v ∈ vs, Und D v) ∧ vs.length = l.length := by
  intro l
  induction l with
  | nil => intro vs h; simp only [List.mapM_nil] at h; cases h; exact ⟨by simp, by simp, rfl⟩
  | cons r l ih =>
    intro vs h
    simp only [List.mapM_cons, Option.bind_eq_bind, Option.bind_eq_some_iff] at h
    obtain ⟨v, hv, vs', hvs, h⟩ := h
    cases h
    obtain ⟨h1, h2⟩ := hfg r v hv
    obtain ⟨h3, h4, h5⟩ := ih vs' hvs
    refine ⟨by simp [List.mapM_cons, h1, h3], ?_, by simp [h5]⟩
    intro x hx
    rcases List.mem_cons.1 hx with rfl | hx
    · exact h2
    · exact h4 x hx

def rvRun (arr : Array Value) : ResultVar → Sem Value
  | .tmp t => pure (arr.getD t undef)
  | .cell a t => do loadVar t (← asAddr (arr.getD a undef))
theorem results_eq (fn : Func) (arr : Array Value) : results fn arr = (do let vs ← fn.results.mapM (rvRun arr); pure (if h : vs.size = 1 then vs[0] else .tuple vs)) := by
  unfold results
  congr 2

theorem results_sound (hZ : TOk Z p) (hR : Rel p e H w) {nt : Nat} {T : Tr Value} {arr : Array Value} (hT : TRel e nt T arr) (hU : TUnd H.D T) {fn : Func} {v : Value}
    (h : resultsOf Z H T fn.results.toList = some v) : (results fn arr).run p.P w = .ok (ren e v) w ∧ Und H.D v := by
  have hone : ∀ r v, resultOf Z H T r = some v →
      (rvRun arr r).run p.P w = .ok (ren e v) w ∧ Und H.D v := by
    intro r v hr
    cases r with
    | tmp t =>
      simp only [resultOf] at hr
      have := hT.2 t v hr
      exact ⟨by simp [rvRun, this], hU t v hr⟩
    | cell a t =>
      simp only [resultOf] at hr
      split at hr <;> try (cases hr; done)
      rename_i ad ha
      have := hT.2 a _ ha
      obtain ⟨h1, h2⟩ := loadV_sound hZ hR hr
      exact ⟨by simp [rvRun, this, asAddr, h1], h2⟩
  obtain ⟨l, hl⟩ : ∃ l : List ResultVar, fn.results = l.toArray := ⟨fn.results.toList, by simp⟩
  rw [hl] at h
  have key : ∀ vs, l.mapM (resultOf Z H T) = some vs → (results fn arr).run p.P w = .ok (if h : vs.length = 1 then ren e (vs[0]'(by omega)) else .tuple (vs.map (ren e)).toArray) w ∧ (∀ v ∈ vs, Und H.D v) ∧ vs.length = l.length := by
    intro vs hvs
    obtain ⟨h1, h2, h3⟩ := mapM_run (w := w) hone l vs hvs
    refine ⟨?_, h2, h3⟩
    simp only [results_eq, hl, List.mapM_toArray, Sem.run_bind, Sem.run_map, h1, Result.andThen_ok, Sem.run_pure, List.size_toArray, List.length_map]
    by_cases hv : vs.length = 1
    · rw [dif_pos hv, dif_pos hv]; simp
    · rw [dif_neg hv, dif_neg hv]
  simp only at h
  unfold resultsOf at h
  split at h
  · rename_i r
    obtain ⟨h1, h2, _⟩ := key [v] (by simp [List.mapM_cons, h])
    exact ⟨by simpa using h1, h2 v (by simp)⟩
  · rename_i hne
    simp only [Option.map_eq_some_iff] at h
    obtain ⟨vs, hvs, rfl⟩ := h
    obtain ⟨h1, h2, h3⟩ := key vs (by simpa using hvs)
    have : vs.length ≠ 1 := by
      intro hv
      rw [h3] at hv
      obtain ⟨r, hr⟩ := List.length_eq_one_iff.1 hv
      exact hne r (by simpa using hr)
    rw [dif_neg this] at h1
    refine ⟨by rw [h1]; simp, und_tuple fun x hx => h2 x (by simpa using hx)⟩

/-- How a frame is on its way out. -/
def MRel (e : Env) (D : Nat → Prop) (m : Option Value) (u : FrameMode) : Prop :=
  match m with
  | none => u = .returning
  | some v => u = .panicking [{ v := ren e v, recovered := false }] ∧ Und D v

theorem MRel.step {m : Option Value} {u : FrameMode} (h : MRel e H.D m u) (hs : Step p e H w e' H' w') : MRel e' H'.D m u := by
  cases m with
  | none => exact h
  | some v => exact ⟨by rw [h.1, h.2.eq hs.agree], h.2.mono hs.sub⟩
theorem MRel.ne_run {D : Nat → Prop} {m : Option Value} {u : FrameMode} (h : MRel e D m u) : u ≠ .run := by
  cases m with
  | none => rw [show u = _ from h]; simp
  | some v => rw [h.1]; simp

/-- How a call has ended. -/
def RPost (p : Par) (e : Env) (H : Heap) (w : World) (r : Res) (H' : Heap) (en : Ending) (w' : World) : Prop :=
  ∃ e', Step p e H w e' H' w' ∧
      match r with
      | .ret v => en = .returned (ren e' v) ∧ Und H'.D v
      | .pan v => en = .panicked [{ v := ren e' v, recovered := false }] ∧ Und H'.D v
theorem RPost.pre {r : Res} {en : Ending} {w1 : World} {e1 : Env} {H1 : Heap} (hs : Step p e H w e1 H1 w1) (h : RPost p e1 H1 w1 r H' en w') : RPost p e H w r H' en w' := by
  obtain ⟨e2, h1, h2⟩ := h
  exact ⟨e2, hs.trans h1, h2⟩

theorem leavesInM_mono {F : Fence} {n : Nat} {P : Program} {fn : Func} {arr : Array Value} {R R' : Ending → World → Prop} (hr : ∀ en w, R en w → R' en w) :
    ∀ (ds : List Deferred) (u : FrameMode) (w : World), LeavesInM F n P fn arr R ds u w → LeavesInM F n P fn arr R' ds u w
  | [], u, w, h => by
    cases u with
    | run => exact h
    | returning => obtain ⟨v, h1, h2⟩ := h; exact ⟨v, h1, hr _ _ h2⟩
    | panicking c => exact hr _ _ h
  | d :: ds, u, w, ⟨hu, h⟩ => by
    refine ⟨hu, ?_⟩
    rcases h with ⟨r, w', h1, h2, h3⟩ | ⟨h1, fv, cap, f, args, h2, h3, h4, h5⟩
    · exact .inl ⟨r, w', h1, h2, leavesInM_mono hr ds u w' h3⟩
    · refine .inr ⟨h1, fv, cap, f, args, h2, h3, h4, CallsDIn.mono h5 ?_⟩
      intro en u' w' hx
      cases en with
      | returned v => exact leavesInM_mono hr ds _ w' hx
      | panicked c => exact leavesInM_mono hr ds _ w' hx
      | outgrown => exact hr _ _ hx

theorem leave_sound (hZ : TOk Z p) {C : Calls3} (hC : COk p C) {n nt : Nat} {fn : Func} {T : Tr Value} {arr : Array Value} :
    ∀ (ds : List Deferred) (m : Option Value) (h h' : Heap) (res : Res) (e : Env) (w : World) (u : FrameMode), Rel p e h w → TRel e nt T arr → TUnd h.D T → (∀ d ∈ ds, DUnd h.D d) → MRel e h.D m u →
      leave Z C fn T ds m h = some (res, h') → LeavesInM (FR none) n p.P fn arr (RPost p e h w res h') (ds.map (renD e)) u w
  | [], none, h, h', res, e, w, u, hR, hT, hU, hds, hm, hl => by
    simp only [leave, Option.map_eq_some_iff] at hl
    obtain ⟨v, hv, heq⟩ := hl
    cases heq
    obtain ⟨h1, h2⟩ := results_sound hZ hR hT hU hv
    rw [show u = _ from hm]
    exact ⟨_, h1, e, .refl hR, rfl, h2⟩
  | [], some v, h, h', res, e, w, u, hR, hT, hU, hds, hm, hl => by
    simp only [leave] at hl
    cases hl
    rw [hm.1]
    exact ⟨e, .refl hR, rfl, hm.2⟩
  | d :: ds, m, h, h', res, e, w, u, hR, hT, hU, hds, hm, hl => by
    have hrest : ∀ x ∈ ds, DUnd h.D x := fun x hx => hds x (by simp [hx])
    refine ⟨hm.ne_run, ?_⟩
    simp only [leave] at hl
    split at hl
    · rename_i r hr
      split at hl
      · cases hl
      rename_i hn0
      have hn : p.N0 ≤ r := by
        have : Nat.ble Z.N0 r = true := by simpa using hn0
        have := Nat.le_of_ble_eq_true this
        rw [hZ.n0] at this; exact this
      split at hl <;> try (cases hl; done)
      rename_i hg
      rw [Heap.setK_eq] at hl
      obtain ⟨rr, hrr, ho⟩ := hR.obj _ _ hg
      simp only [ORel] at ho
      subst ho
      have hs : Step p e h w e (h.set r (some (.deferred none))) { w with heap := w.heap.setIfInBounds (e.ρ r) (.deferred none) } :=
        Step.put hR r _ _ (.deferred none) hg hn (by intro l hl; cases hl) rfl rfl rfl rfl rfl
      refine .inl ⟨e.ρ r, _, by simp [renD, renT, hr], ?_, leavesInM_mono (fun _ _ hx => hx.pre hs) _ _ _ (leave_sound hZ hC ds m _ h' res e _ u hs.rel hT (hU.mono hs.sub) (fun x hx => (hrest x hx).mono hs.sub) (hm.step hs) hl)⟩
      have hin := (Array.getElem?_eq_some_iff.1 hrr).1
      simp only [Instr.takeDeferred, getObj, Sem.run_bind, Sem.run, hrr, Result.andThen_ok, Option.map_some, List.map_nil]
      rw [show setObj (e.ρ r) (Obj.deferred none) = setObj (e.ρ r) (Obj.deferred none) from rfl, run_setObj hrr (fun _ _ _ hx => by cases hx)]
      rfl
    · rename_i f cap hd
      split at hl
      · cases hl
      rename_i hfn
      obtain ⟨fn', hfn'⟩ : ∃ fn', Z.fn f = some fn' := by
        cases hz : Z.fn f with
        | none => rw [hz] at hfn; exact (hfn rfl).elim
        | some fn' => exact ⟨fn', rfl⟩
      split at hl <;> try (cases hl; done)
      rename_i rec h1 hdf
      have hdu := hds d (by simp)
      have hau : ∀ a ∈ d.args.toList ++ cap.toList, Und h.D a := by
        intro a ha x y hxy
        have := hdu x y hxy
        simp only [renD, hd, renT, Deferred.mk.injEq, Target.fn.injEq] at this
        rcases List.mem_append.1 ha with ha | ha
        · exact mem_of_map_eq this.2 a (by simpa using ha)
        · exact mem_of_map_eq this.1.2 a (by simpa using ha)
      have hcall := hC.df f _ m h rec h1 hdf e w (n - 1) u hR hau (by cases m <;> exact hm)
      have hentr := (callFuncA_sound (f := f) (o := .enter f (d.args.toList ++ cap.toList)) hZ hR (by simp only [callFuncA, hfn']) hau).1
      refine .inr ⟨fun hx => by simp [FR] at hx, .func f, cap.map (ren e), f, ((d.args.toList ++ cap.toList).map (ren e)).toArray, by simp [renD, renT, hd, renFn], ?_, fun _ _ => trivial, CallsDIn.mono hcall ?_⟩
      · simp only [renD, renT, hd, renFn, invoke]
        have : d.args.map (ren e) ++ cap.map (ren e) = ((d.args.toList ++ cap.toList).map (ren e)).toArray := by
          apply Array.ext'; simp
        rw [this]; exact hentr
      · rintro en u1 w1 ⟨e1, hs, ⟨x, rfl⟩, hset, hrec⟩
        have hm1 : MRel e1 h1.D (cond rec none m) (settle u1) := by
          rw [hset]
          cases rec with
          | true => exact rfl
          | false => exact hm.step hs
        have := leave_sound (n := n) hZ hC ds (cond rec none m) h1 h' res e1 w1 (settle u1) hs.rel (hT.agree hU hs.agree) (hU.mono hs.sub) (fun x hx => (hrest x hx).mono hs.sub) hm1 hl
        rw [← dmap_eq hrest hs.agree] at this
        exact leavesInM_mono (fun _ _ hx => hx.pre hs) _ _ _ this
    · cases hl
end Go.Eng
