/- A statement that ranges over a function. -/
import Derived.Test.YtooppedofcpfeaaGreatDoorEngN
set_option linter.all false
namespace Go.Eng
variable [Shift]
variable {p : Par} {e e' e'' : Env} {H H' : Heap} {w w' w'' : World} {Z : Tab}

theorem run_newObj {P : Program} (r : Obj) (w : World) : (newObj r).run P w = .ok w.heap.size (w.alloc r) := rfl

theorem Rel.loopAt (hR : Rel p e H w) {l : Nat} {st : LoopState} {pend : Option Code} {fid : FuncId} {T : Tr Value} {nt : Nat} {ps : Array Tmp} {as bd : Code} {d : Nat}
    (h : H.get l = some (.loop st pend fid T nt ps as bd d)) :
    ∃ arr fn, w.heap[e.ρ l]? = some (.loop { state := st, pending := pend, fn := fn, tmps := arr, params := ps, assign := as, body := bd, defers := e.ρ d }) ∧ TRel e nt T arr := by
  obtain ⟨r, hr, ho⟩ := hR.obj _ _ h
  obtain ⟨arr, fn, rfl, ht⟩ := ho
  exact ⟨arr, fn, hr, ht⟩

theorem run_getLoop {P : Program} {l : Nat} {r : Loop} (h : w.heap[l]? = some (.loop r)) : (Instr.getLoop l).run P w = .ok r w := by
  simp only [Instr.getLoop, getObj, Sem.run_bind, Sem.run, h, Result.andThen_ok, Sem.run_pure]
theorem run_setObj {P : Program} {l : Nat} {o r : Obj} (h : w.heap[l]? = some o) (hc : ∀ c el fz, o ≠ .cells c el fz) : (setObj l r).run P w = .ok () { w with heap := w.heap.setIfInBounds l r } := by
  simp only [setObj, Sem.run, h]

/-- The record of a loop gets another state. -/
theorem Step.loopPut (hR : Rel p e H w) {l : Nat} {st st' : LoopState} {pend pend' : Option Code} {fid : FuncId} {T : Tr Value} {nt : Nat} {ps : Array Tmp} {as bd : Code} {d : Nat}
    (h : H.get l = some (.loop st pend fid T nt ps as bd d)) (hn : p.N0 ≤ l) {fn : FuncId} {arr : Array Value} (ht : TRel e nt T arr) :
    Step p e H w e (H.set l (some (.loop st' pend' fid T nt ps as bd d)))
      { w with heap := w.heap.setIfInBounds (e.ρ l) (.loop { state := st', pending := pend', fn := fn, tmps := arr, params := ps, assign := as, body := bd, defers := e.ρ d }) } := by
  have hu := hR.und _ _ h
  exact Step.put hR l _ _ _ h hn hu ⟨arr, fn, rfl, ht⟩ rfl rfl rfl rfl

theorem rangeFunc_sound {fuel : Nat} {C : Calls3} (hZ : TOk Z p) (hC : COk p C) : ROk Z p fuel C := by
  intro fid nt n g ps assign body s s' ex e w a hnt hS hok h
  simp only [run, Bool.false_or, Option.bind_eq_bind] at h
  split at h
  · cases h
  rename_i hsm
  have hsm' : s.h.next < 1000000000 := by
    cases hb : Nat.blt s.h.next 1000000000 with
    | true => exact Nat.blt_eq.mp hb
    | false => rw [hb] at hsm; exact (hsm rfl).elim
  split at h <;> try (cases h; done)
  rename_i f first cap hg
  split at h
  · cases h
  rename_i hfn
  simp only [Heap.newK_eq] at h
  simp only [cOk, Bool.and_eq_true, List.all_eq_true] at hok
  obtain ⟨⟨⟨hgo, hps⟩, has⟩, hbd⟩ := hok
  obtain ⟨hge, hgu⟩ := hS.erel g hgo (by rw [hg]; rfl)
  rw [hg] at hge hgu
  simp only [ren_func, renFn] at hge
  obtain ⟨_, hu1, hu2⟩ := und_func_inv hgu
  -- the two blocks
  have st1 := Step.alloc hS.rel (.deferred (some [])) (.deferred (some [])) 0 (by intro l hl x hx; cases hl; cases hx) rfl (by omega)
  generalize he1 : e.more s.h.next w.heap.size 0 = e1 at st1
  generalize hH1 : s.h.new (.deferred (some [])) = H1 at st1 h
  generalize hw1 : w.alloc (.deferred (some [])) = w1 at st1
  have hn1 : H1.next = s.h.next + 1 := by rw [← hH1]; rfl
  have hD1 : H1.D s.h.next := by
    have := hS.rel.newD
    rw [← hH1]; exact this
  have hr1 : e1.ρ s.h.next = w.heap.size := by rw [← he1]; simp
  refine wpIn_rangeFunc fun fn _ => ?_
  have hT1 : TRel e1 nt s.T a.tmps := hS.tmps.agree hS.tund st1.agree
  have hU1 : TUnd H1.D s.T := hS.tund.mono st1.sub
  let lp : Loop := { state := .ready, pending := none, fn := fn, tmps := a.tmps, params := ps, assign := assign, body := body, defers := w.heap.size }
  have st2 := Step.alloc st1.rel (.loop .ready none fid s.T nt ps assign body s.h.next) (.loop lp) 0
    ⟨hU1, hD1, has, hbd, hnt, fun q hq => Nat.blt_eq.mp (hps q hq)⟩
    ⟨a.tmps, fn, by
        have := (Env.more_agree e1 H1 w1.heap.size 0 _ hD1).1
        rw [← this, hr1], hT1.agree hU1 (Env.more_agree e1 H1 w1.heap.size 0)⟩ (by omega)
  generalize he2 : e1.more H1.next w1.heap.size 0 = e2 at st2
  generalize hH2 : H1.new (.loop .ready none fid s.T nt ps assign body s.h.next) = H2 at st2 h
  have hr2 : e2.ρ H1.next = w1.heap.size := by rw [← he2]; simp
  have hD2 : H2.D H1.next := by
    have := st1.rel.newD
    rw [← hH2]; exact this
  have st12 := st1.trans st2
  have hS2 := hS.step st12
  simp only [Option.bind_eq_some_iff] at h
  obtain ⟨⟨res, h3⟩, hcall, h⟩ := h
  have huargs : ∀ v ∈ first.toList ++ [Value.func (.yield H1.next) #[] #[]] ++ cap.toList, Und H2.D v := by
    intro v hv
    simp only [List.append_assoc, List.cons_append, List.nil_append, List.mem_append, List.mem_cons] at hv
    rcases hv with hv | rfl | hv
    · exact (hu1 v (by simpa using hv)).mono st12.sub
    · exact und_func (fun e e' ha => by simp [renFn, (ha _ hD2).1]) (by simp) (by simp)
    · exact (hu2 v (by simpa using hv)).mono st12.sub
  have hc := hC.fn f _ H2 res h3 hcall e2 (w1.alloc (.loop lp)) (n - 1) st2.rel huargs
  obtain ⟨fn', hfn'⟩ : ∃ fn', Z.fn f = some fn' := by
    cases hz : Z.fn f with
    | none => rw [hz] at hfn; exact (hfn rfl).elim
    | some fn' => exact ⟨fn', rfl⟩
  have hentr := (callFuncA_sound (f := f) (o := .enter f (first.toList ++ [Value.func (.yield H1.next) #[] #[]] ++ cap.toList)) hZ st2.rel (by simp only [callFuncA, hfn']) huargs).1
  have hfirst : first.map (ren e) = first.map (ren e2) := und_arr hu1 st12.agree
  have hcap : cap.map (ren e) = cap.map (ren e2) := und_arr hu2 st12.agree
  have hargs : (first.map (ren e) ++ #[Value.func (.yield w1.heap.size) #[] #[]] ++ cap.map (ren e)) = ((first.toList ++ [Value.func (.yield H1.next) #[] #[]] ++ cap.toList).map (ren e2)).toArray := by
    rw [hfirst, hcap]
    apply Array.ext'
    simp [renFn, hr2]
  refine ⟨w1.heap.size, [{ target := .collected w.heap.size, args := #[] }], w1.alloc (.loop lp),
    { target := .fn (.func f) (cap.map (ren e)), args := first.map (ren e) ++ #[Value.func (.yield w1.heap.size) #[] #[]] }, w1.alloc (.loop lp), f,
    ((first.toList ++ [Value.func (.yield H1.next) #[] #[]] ++ cap.toList).map (ren e2)).toArray, w1.alloc (.loop lp), ?_, ?_, fun _ _ => trivial, ?_, fun hd => by simp [FR] at hd, ?_⟩
  · rw [← hw1]
    simp only [Instr.enterLoop, FR, Sem.run_bind, run_newObj, Result.andThen_ok, Sem.run_pure, lp]
  · have hcv : a.eval (.const (.func (.yield w1.heap.size) #[] #[])) = .func (.yield w1.heap.size) #[] #[] := rfl
    simp [resolve, rangeCall, hge, Deferred.ofValue, hcv]
  · simp only [invoke, hargs]
    exact hentr
  · have hds : ({ a with defers := [{ target := .collected w.heap.size, args := #[] }] ++ a.defers } : Act).defers = ({ target := .collected s.h.next, args := #[] } :: s.ds).map (renD e2) := by
      simp only [List.singleton_append, List.map_cons]
      congr 1
      · simp only [renD, renT, Array.map_empty]
        rw [← (st2.agree _ hD1).1, hr1]
      · exact hS2.defs
    have hdu : ∀ d ∈ ({ target := .collected s.h.next, args := #[] } :: s.ds : List Deferred), DUnd H2.D d := by
      intro d hd
      rcases List.mem_cons.1 hd with rfl | hd
      · intro x y hxy
        simp only [renD, renT, Array.map_empty]
        rw [(hxy _ (st2.sub _ hD1)).1]
      · exact hS2.dund d hd
    have hSx : SRel p e2 nt ⟨s.T, H2, { target := .collected s.h.next, args := #[] } :: s.ds⟩ { a with defers := [{ target := .collected w.heap.size, args := #[] }] ++ a.defers } (w1.alloc (.loop lp)) :=
      ⟨hS2.rel, hS2.tmps, hS2.tund, hds, hdu⟩
    refine CallsIn.mono hc ?_
    rintro en w3 ⟨e3, st3, hres⟩
    have hS3 := hSx.step st3
    cases res with
    | pan v =>
      obtain ⟨rfl, hu⟩ := hres
      simp only [Option.some.injEq, Prod.mk.injEq] at h
      obtain ⟨rfl, rfl⟩ := h
      exact ⟨e3, st12.trans st3, hS3, rfl, hu⟩
    | ret v =>
      obtain ⟨rfl, hu⟩ := hres
      simp only [Option.bind_eq_some_iff] at h
      obtain ⟨o, hget, h⟩ := h
      split at h <;> try (cases h; done)
      rename_i st pend fid3 T3 nt3 ps3 a3 b3 d3
      split at h
      · cases h
      rename_i hbusy
      rw [Heap.setK_eq] at h
      obtain ⟨arr3, fn3, hrow, ht3⟩ := st3.rel.loopAt hget
      have hl3 : e3.ρ H1.next = w1.heap.size := by rw [← (st3.agree _ hD2).1, hr2]
      rw [hl3] at hrow
      have hNl : p.N0 ≤ H1.next := by have := hS.rel.nxt; omega
      have st4 := Step.loopPut (st' := .exhausted) (pend' := pend) st3.rel hget hNl (fn := fn3) ht3
      rw [hl3] at st4
      have hS4 := hS3.step st4
      have hend : (Instr.endLoop w1.heap.size).run p.P w3 = .ok pend { w3 with heap := w3.heap.setIfInBounds w1.heap.size (.loop { state := .exhausted, pending := pend, fn := fn3, tmps := arr3, params := ps3, assign := a3, body := b3, defers := e3.ρ d3 }) } := by
        have hin := (Array.getElem?_eq_some_iff.1 hrow).1
        simp [Instr.endLoop, run_getLoop hrow, hbusy, run_setObj hrow (fun _ _ _ h => by cases h)]
      refine ⟨pend, _, hend, ?_⟩
      have hall := (st12.trans st3).trans st4
      split at h
      · cases h; exact ⟨e3, hall, hS4, rfl⟩
      · cases h; exact wpIn_ret ⟨e3, hall, hS4, rfl⟩
      · cases h; exact wpIn_exit ⟨e3, hall, hS4, rfl⟩
      · cases h
end Go.Eng
