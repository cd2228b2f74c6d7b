/- All calls, by the depth to which the evaluator follows them. -/
import Derived.Test.YtooppedofcpfeaaGreatDoorEngQ
set_option linter.all false
namespace Go.Eng
variable [Shift]
variable {p : Par} {e e' e'' : Env} {H H' : Heap} {w w' w'' : World} {Z : Tab}

theorem COk.none : COk p Calls3.none := ⟨(fun _ _ _ _ _ h => by cases h), (fun _ _ _ _ _ h => by cases h), (fun _ _ _ _ _ _ h => by cases h)⟩

theorem fn_sound {fuel k : Nat} (hZ : TOk Z p) (hC : COk p (calls Z fuel k)) (hD : DOk Z p (calls Z fuel k)) {f : FuncId} {args : List Value} {h h' : Heap} {r : Res} (hf : (calls Z fuel (k + 1)).fn f args h = some (r, h'))
    {n : Nat} (hR : Rel p e h w) (hu : ∀ a ∈ args, Und h.D a) : CallsIn (FR none) n p.P f (args.map (ren e)).toArray w (RPost p e h w r h') := by
  simp only [calls, Option.bind_eq_bind, Option.bind_eq_some_iff] at hf
  obtain ⟨fn, hfn, c, hc, hf⟩ := hf
  split at hf
  · cases hf
  rename_i hlen
  simp only [enterK_eq, Option.bind_eq_some_iff] at hf
  obtain ⟨⟨ex, s⟩, hrun, hf⟩ := hf
  obtain ⟨hP, ⟨c', hc', hcok, hnt⟩, _⟩ := hZ.fn f fn hfn
  rw [hc] at hc'
  cases hc'
  have hS := SRel.enter hR hu (nt := fn.ntmps) (by omega) hnt
  refine callsIn_of_wp_marks hP hc trivial ?_
  refine wpIn_mono (run_sound (r := none) hZ hC hD (rangeFunc_sound hZ hC) hnt rfl c _ s ex e w _ hS hcok hrun) ?_
  rintro E a1 w1 ⟨e1, hst, hS1, hE⟩
  have hmr : (m : Option Value) → (u : FrameMode) → MRel e1 s.h.D m u → leave Z (calls Z fuel k) fn s.T s.ds m s.h = some (r, h') → LeavesInM (FR none) n p.P fn a1.tmps (RPost p e h w r h') a1.defers u w1 := by
    intro m u hm hl
    rw [hS1.defs]
    exact leavesInM_mono (fun _ _ hx => hx.pre hst) _ _ _ (leave_sound hZ hC s.ds m s.h h' r e1 w1 u hS1.rel hS1.tmps hS1.tund hS1.dund hm hl)
  cases ex with
  | normal => cases hE; exact hmr none _ rfl hf
  | ret => cases hE; exact hmr none _ rfl hf
  | panic v => obtain ⟨rfl, hv⟩ := hE; exact hmr (some v) _ ⟨rfl, hv⟩ hf
  | exit i => cases hf

theorem df_sound {fuel k : Nat} (hZ : TOk Z p) (hC : COk p (calls Z fuel k)) (hD : DOk Z p (calls Z fuel k)) {f : FuncId} {args : List Value} {m : Option Value} {h h' : Heap} {rec : Bool}
    (hf : (calls Z fuel (k + 1)).df f args m h = some (rec, h')) {n : Nat} {u : FrameMode} (hR : Rel p e h w) (hu : ∀ a ∈ args, Und h.D a) (hm : MRel e h.D m u) :
    CallsDIn (FR none) n p.P f (args.map (ren e)).toArray u w fun en u' w' => ∃ e', Step p e h w e' h' w' ∧ (∃ x, en = .returned x) ∧ settle u' = (if rec then .returning else u) ∧ (rec = true → m.isSome = true) := by
  simp only [calls, Option.bind_eq_bind, Option.bind_eq_some_iff] at hf
  obtain ⟨fn, hfn, c, hc, hf⟩ := hf
  split at hf
  · cases hf
  rename_i hlen
  simp only [enterK_eq, Option.bind_eq_some_iff] at hf
  obtain ⟨⟨ex, s, rec1⟩, hrun, hf⟩ := hf
  obtain ⟨hP, ⟨c', hc', hcok, hnt⟩, _⟩ := hZ.fn f fn hfn
  rw [hc] at hc'
  cases hc'
  have hS := SRel.enter hR hu (nt := fn.ntmps) (by omega) hnt
  refine callsDIn_of_wpSIn hP hc trivial ?_
  intro c₀ cs₀ hmode
  have hK : KRel e m u false c₀ cs₀ (c₀ :: cs₀) := ⟨u, by subst hmode; rfl, fun _ => rfl, fun hx => by cases hx⟩
  have hwp := runS_sound (n := n) (x := ⟨f, fn.ntmps, false⟩) hZ hC hD (rangeFunc_sound hZ hC) hnt rfl hm c _ s false rec1 ex e w _ (c₀ :: cs₀) hS hK (.refl _ _) (fun _ hb => hb) hcok hrun
  intro b k' hb hro hF hroom
  obtain ⟨E, a1, cs1, w1, hl, ⟨⟨e1, hst, hS1, hE⟩, u', hcs, hr1, hr2⟩, harr⟩ := hwp b k' hb hro hF hroom
  refine ⟨E, a1, cs1, w1, hl, ?_, harr⟩
  have fin : s.ds = [] → (resultsOf Z s.h s.T fn.results.toList).map (fun _ => (rec1, s.h)) = some (rec, h') →
      a1.defers = [] ∧ ∃ u', cs1 = { c₀ with mode := u' } :: cs₀ ∧ ∃ v, (results fn a1.tmps).run p.P w1 = .ok v w1 ∧
        ∃ e', Step p e h w e' h' w1 ∧ (∃ x, Ending.returned v = .returned x) ∧ settle u' = (if rec then .returning else u) ∧ (rec = true → m.isSome = true) := by
    intro hds hres
    simp only [Option.map_eq_some_iff] at hres
    obtain ⟨v, hv, heq⟩ := hres
    cases heq
    refine ⟨by rw [hS1.defs, hds]; rfl, u', hcs, _, (results_sound hZ hS1.rel hS1.tmps hS1.tund hv).1, e1, hst, ⟨_, rfl⟩, ?_, ?_⟩
    · cases rec with
      | true =>
        obtain ⟨v', _, hu'⟩ := hr2 rfl
        rw [hu']; rfl
      | false =>
        rw [hr1 rfl]
        cases m with
        | none => rw [show u = _ from hm]; rfl
        | some v' => rw [hm.1]; rfl
    · intro hx
      obtain ⟨v', hv', _⟩ := hr2 hx
      rw [hv']; rfl
  cases hds : s.ds with
  | cons d ds => simp only [hds] at hf; cases ex <;> cases hf
  | nil =>
    simp only [hds] at hf
    cases ex with
    | normal => cases hE; exact fin hds hf
    | ret => cases hE; exact fin hds hf
    | exit i => cases hf
    | panic v => cases hf

theorem rd_sound {fuel k : Nat} (hZ : TOk Z p) (hC : COk p (calls Z fuel k)) (hD : DOk Z p (calls Z fuel k)) {l : Nat} {args : List Value} {h h' : Heap} {v : Value} (hf : (calls Z fuel (k + 1)).rd l args h = some (v, h'))
    {n : Nat} (hR : Rel p e h w) (hu : ∀ a ∈ args, Und h.D a) :
    ∃ f tmps assign body, (Instr.yield (e.ρ l) (args.map (ren e)).toArray).run p.P w = .ok (.round (e.ρ l) f tmps assign body) w ∧
      RoundIn (FR none) n p.P (e.ρ l) f tmps assign body w fun en w' => ∃ e', Step p e h w e' h' w' ∧ en = .returned (ren e' v) ∧ Und h'.D v := by
  simp only [calls, Option.bind_eq_bind] at hf
  split at hf
  · cases hf
  rename_i hn0
  have hn : p.N0 ≤ l := by
    have : Nat.ble Z.N0 l = true := by simpa using hn0
    have := Nat.le_of_ble_eq_true this
    rw [hZ.n0] at this; exact this
  simp only [Option.bind_eq_some_iff] at hf
  obtain ⟨o, hget, hf⟩ := hf
  split at hf <;> try (cases hf; done)
  rename_i st pend fid T nt ps as bd d
  split at hf
  · cases hf
  rename_i hlen
  have hlen' : args.length = ps.size := Classical.not_not.1 hlen
  simp only [setAllK_eq, Option.bind_eq_some_iff] at hf
  obtain ⟨⟨ex1, s1⟩, hrun1, hf⟩ := hf
  obtain ⟨arr, fn, hrow, hT⟩ := hR.loopAt hget
  obtain ⟨hU, hDd, has, hbd, hnt, hps⟩ := hR.und _ _ hget
  have hyield : (Instr.yield (e.ρ l) (args.map (ren e)).toArray).run p.P w = .ok (.round (e.ρ l) fn ((ps.zip (args.map (ren e)).toArray).foldl (fun tmps (t, a) => tmps.setIfInBounds t a) arr) as bd) w := by
    simp only [Instr.yield, Sem.run_bind, run_getLoop hrow, Result.andThen_ok]
    rw [if_neg (by simp [hlen'])]
    rfl
  refine ⟨_, _, _, _, hyield, ?_⟩
  obtain ⟨hT1, hU1⟩ := setAll_sound ps.toList args T arr hnt hps hu hT hU
  have hfold : (ps.zip (args.map (ren e)).toArray).foldl (fun tmps (t, a) => tmps.setIfInBounds t a) arr = (ps.toList.zip (args.map (ren e))).foldl (fun tmps (t, a) => tmps.setIfInBounds t a) arr := by
    rw [← Array.foldl_toList]; simp
  rw [hfold]
  have hS : SRel p e nt ⟨setAllT T ps.toList args, h, []⟩ { tmps := (ps.toList.zip (args.map (ren e))).foldl (fun tmps (t, a) => tmps.setIfInBounds t a) arr, defers := [] } w :=
    ⟨hR, hT1, hU1, rfl, by simp⟩
  refine roundIn_of_wpIn trivial ?_
  obtain rfl : ex1 = .normal := by cases ex1 <;> first | rfl | cases hf
  simp only [Option.bind_eq_some_iff] at hf
  obtain ⟨o2, hget2, hf⟩ := hf
  have hlR : ∀ {e1 : Env} {H1 : Heap} {w1 : World}, Step p e h w e1 H1 w1 → e1.ρ l = e.ρ l := fun hst => ((hst.agree l (hR.lt l _ hget)).1).symm
  refine wpIn_mono (run_sound (r := some (e.ρ l)) (x := ⟨fid, nt, true⟩) hZ hC hD (rangeFunc_sound hZ hC) hnt rfl as _ _ _ e w _ hS has hrun1) ?_
  rintro E a1 w1 ⟨e1, hst1, hS1, hE⟩
  cases hE
  split at hf <;> try (cases hf; done)
  rename_i st2 pend2 fid2 T2 nt2 ps2 a2 b2 d2
  simp only [Heap.setK_eq, Option.bind_eq_some_iff] at hf
  obtain ⟨⟨ex2, s2⟩, hrun2, o3, hget3, hf⟩ := hf
  obtain ⟨arr2, fn2, hrow2, hT2⟩ := hS1.rel.loopAt hget2
  have stB := Step.loopPut (st' := .busy) (pend' := pend2) hS1.rel hget2 hn (fn := fn2) hT2
  have hl1 := hlR hst1
  refine ⟨{ w1 with heap := w1.heap.setIfInBounds (e1.ρ l) (.loop { state := .busy, pending := pend2, fn := fn2, tmps := arr2, params := ps2, assign := a2, body := b2, defers := e1.ρ d2 }) }, ?_, ?_⟩
  · rw [hl1] at hrow2
    simp only [Instr.beginRound, Sem.run_bind, run_getLoop hrow2, Result.andThen_ok, run_setObj hrow2 (fun _ _ _ hx => by cases hx), hl1, Sem.run_pure]
  · have hSB := hS1.step stB
    refine wpIn_mono (run_sound (r := some (e.ρ l)) (x := ⟨fid, nt, true⟩) hZ hC hD (rangeFunc_sound hZ hC) hnt rfl bd _ _ _ e1 _ _ hSB hbd hrun2) ?_
    rintro E a3 w3 ⟨e3, hst3, hS3, hE⟩
    have hall := (hst1.trans stB).trans hst3
    have hl3 := hlR hall
    split at hf <;> try (cases hf; done)
    rename_i st3 pend3 fid3 T3 nt3 ps3 a3' b3 d3
    obtain ⟨arr3, fn3, hrow3, hT3⟩ := hS3.rel.loopAt hget3
    have fin : ∀ (jump : Option Code) (st4 : LoopState), (if jump.isNone then LoopState.ready else LoopState.done) = st4 → s2.h.set l (some (.loop st4 jump fid3 T3 nt3 ps3 a3' b3 d3)) = h' → v = .bool jump.isNone →
        ∃ v' w', (Instr.endRound (e.ρ l) jump).run p.P w3 = .ok v' w' ∧ ∃ e', Step p e h w e' h' w' ∧ Ending.returned v' = .returned (ren e' v) ∧ Und h'.D v := by
      intro jump st4 hst4 hh hv
      have stE := Step.loopPut (st' := st4) (pend' := jump) hS3.rel hget3 hn (fn := fn3) hT3
      rw [hh] at stE
      rw [hl3] at hrow3 stE
      refine ⟨.bool jump.isNone, _, ?_, e3, hall.trans stE, by rw [hv]; simp, by rw [hv]; exact und_bool _⟩
      simp only [Instr.endRound, Sem.run_bind, run_getLoop hrow3, Result.andThen_ok, run_setObj hrow3 (fun _ _ _ hx => by cases hx), Sem.run_pure, hst4]
    cases ex2 with
    | normal =>
      cases hE
      simp only [Option.some.injEq, Prod.mk.injEq] at hf
      exact fin none .ready rfl hf.2 hf.1.symm
    | ret =>
      cases hE
      simp only [Option.some.injEq, Prod.mk.injEq] at hf
      exact fin (some .ret) .done rfl hf.2 hf.1.symm
    | exit i =>
      cases hE
      simp only [Option.some.injEq, Prod.mk.injEq] at hf
      exact fin (some (.exit i)) .done rfl hf.2 hf.1.symm
    | panic v' => cases hf

theorem calls_sound (hZ : TOk Z p) {fuel : Nat} (hD : ∀ C, COk p C → DOk Z p C) : ∀ k, COk p (calls Z fuel k)
  | 0 => COk.none
  | k + 1 => by
    have ih := calls_sound hZ (fuel := fuel) hD k
    refine ⟨?_, ?_, ?_⟩
    · intro f args h r h' hf e w n hR hu
      exact fn_sound hZ ih (hD _ ih) hf hR hu
    · intro l args h v h' hf e w n hR hu
      exact rd_sound hZ ih (hD _ ih) hf hR hu
    · intro f args m h rec h' hf e w n u hR hu hm
      exact df_sound hZ ih (hD _ ih) hf hR hu (by cases m <;> exact hm)
end Go.Eng
