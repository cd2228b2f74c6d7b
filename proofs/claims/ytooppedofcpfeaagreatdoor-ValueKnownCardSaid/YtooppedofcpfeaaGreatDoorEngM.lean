/- Frames: one operation, and a list of them. -/
import Derived.Test.YtooppedofcpfeaaGreatDoorEngL
import Derived.RangeFuncCalls
import Derived.RangeFuncLeaves
import Derived.RecoverIn
import Derived.OrdersIn
set_option linter.all false
namespace Go.Eng
variable [Shift]
variable {p : Par} {e e' e'' : Env} {H H' : Heap} {w w' w'' : World} {Z : Tab}

/-- The widest fence, for frames of functions (none) and of rounds. -/
def FR (r : Option Nat) : Fence := { fn := fun _ => True, depth := none, alive := false, round := r }
theorem FR_fn (r : Option Nat) (f : FuncId) : (FR r).fn f := trivial
theorem FR_depth (r : Option Nat) : (FR r).depth = none := rfl

structure SRel (p : Par) (e : Env) (nt : Nat) (s : St) (a : Act) (w : World) : Prop where
  rel : Rel p e s.h w
  tmps : TRel e nt s.T a.tmps
  tund : TUnd s.h.D s.T
  defs : a.defers = s.ds.map (renD e)
  dund : ∀ d ∈ s.ds, DUnd s.h.D d

theorem dmap_eq {n : Nat → Prop} {ds : List Deferred} (h : ∀ d ∈ ds, DUnd n d) (ha : Agree n e e') : ds.map (renD e) = ds.map (renD e') := List.map_congr_left fun d hd => h d hd _ _ ha

/-- The same frame over what has become of memory. -/
theorem SRel.step {nt : Nat} {s : St} {a : Act} (h : SRel p e nt s a w) {h' : Heap} (hs : Step p e s.h w e' h' w') : SRel p e' nt ⟨s.T, h', s.ds⟩ a w' :=
  ⟨hs.rel, h.tmps.agree h.tund hs.agree, h.tund.mono hs.sub, h.defs.trans (dmap_eq h.dund hs.agree), fun d hd => (h.dund d hd).mono hs.sub⟩

theorem SRel.put {nt : Nat} {s : St} {a : Act} (h : SRel p e nt s a w) (hnt : nt ≤ 2 ^ 30) {o : Oper} {G : Nat} (hok : opOk G nt o = true) {v : Value} (hv : Und s.h.D v) :
    SRel p e nt ⟨putA s.T o.dst v, s.h, s.ds⟩ (a.put o.dst (ren e v)) w := by
  cases hd : o.dst with
  | none => exact h
  | some d =>
    have hdn : d < nt := by
      simp only [opOk, hd, Bool.and_eq_true] at hok
      exact Nat.blt_eq.mp hok.1
    have hget : ∀ t, (s.T.set d (some v)).get t = if t = d then some v else s.T.get t := fun t => Tr.get_set _ _ _ _ (by have : @LT.lt Nat _ d nt := hdn; omega)
    refine ⟨h.rel, ⟨?_, ?_⟩, ?_, h.defs, h.dund⟩
    · simp [Act.put, h.tmps.1]
    · intro t u hu
      simp only [putA, hget] at hu
      simp only [Act.put]
      by_cases ht : t = d
      · subst ht
        rw [if_pos rfl] at hu
        cases hu
        simp [h.tmps.1, hdn]
      · rw [if_neg ht] at hu
        rw [Array.getElem?_setIfInBounds_ne (Ne.symm ht)]
        exact h.tmps.2 t u hu
    · intro t u hu
      simp only [putA, hget] at hu
      by_cases ht : t = d
      · rw [if_pos ht] at hu; cases hu; exact hv
      · rw [if_neg ht] at hu; exact h.tund t u hu

theorem SRel.erel {nt : Nat} {s : St} {a : Act} (h : SRel p e nt s a w) : ERel (operandOk p.G) e s.h.D (ev s.T) a.eval := by
  intro x hx hk
  cases x with
  | tmp t =>
    simp only [ev] at hk ⊢
    cases ht : s.T.get t with
    | none => rw [ht] at hk; simp [unknown, known] at hk
    | some v =>
      simp only [Option.getD_some]
      have := h.tmps.2 t v ht
      refine ⟨?_, h.tund t v ht⟩
      simp [Act.eval, this]
  | const v =>
    simp only [operandOk] at hx
    exact ⟨by simp only [Act.eval, ev]; rw [ren_plain 3 v hx], und_plain hx⟩
  | global g =>
    simp only [operandOk, Nat.blt_eq] at hx
    have h1 := h.rel.glo g hx
    have h2 := h.rel.gn
    have h3 := h.rel.nxt
    exact ⟨by simp [Act.eval, ev, Env.addr, h1.1, h.rel.shiftG hx], und_ptr (h.rel.gloD hx)⟩
  | func f => exact ⟨by simp [Act.eval, ev, renFn], und_func (fun _ _ _ => rfl) (by simp) (by simp)⟩

theorem ren_bool_inv {v : Value} {b : Bool} (h : ren e v = .bool b) : v = .bool b := by
  cases v with
  | bool c => simpa using h
  | pointer a => cases a <;> simp at h
  | slice a l c => cases a <;> simp at h
  | map r => cases r <;> simp at h
  | chan r => cases r <;> simp at h
  | _ => simp at h

theorem wantedA_sound {nt : Nat} {s : St} {a : Act} (h : SRel p e nt s a w) {o : Oper} {ops : Array Oper} {b : Bool} (hw : wantedA o ops s.T = some b) : Region.wanted o (yielded ops a.tmps) = b := by
  simp only [wantedA] at hw
  simp only [Region.wanted]
  split at hw
  · rename_i hg; rw [hg]; cases hw; rfl
  · rename_i j want hg
    rw [hg]
    simp only
    split at hw
    · cases hw
    · rename_i d hd
      simp only [yielded, hd, Option.bind_some]
      split at hw
      · rename_i c hc
        cases hw
        have := h.tmps.2 d _ hc
        simp only [ren_bool] at this
        rw [this]
        cases c <;> cases want <;> rfl
      · rename_i v hne hv
        cases hw
        have := h.tmps.2 d v hv
        rw [this]
        have : ∀ c, ren e v ≠ .bool c := fun c hc => hne c (ren_bool_inv hc)
        split
        · rename_i c hc
          exact (this c (Option.some.inj hc)).elim
        · rfl
      · cases hw

/-- What the three kinds of calls must come to. -/
structure COk (p : Par) (C : Calls3) : Prop where
  fn : ∀ f args h r h', C.fn f args h = some (r, h') → ∀ (e : Env) (w : World) (n : Nat), Rel p e h w → (∀ a ∈ args, Und h.D a) →
    CallsIn (FR none) n p.P f (args.map (ren e)).toArray w fun en w' => ∃ e', Step p e h w e' h' w' ∧
      match r with
      | .ret v => en = .returned (ren e' v) ∧ Und h'.D v
      | .pan v => en = .panicked [{ v := ren e' v, recovered := false }] ∧ Und h'.D v
  rd : ∀ l args h v h', C.rd l args h = some (v, h') → ∀ (e : Env) (w : World) (n : Nat), Rel p e h w → (∀ a ∈ args, Und h.D a) →
    ∃ f tmps assign body, (Instr.yield (e.ρ l) (args.map (ren e)).toArray).run p.P w = .ok (.round (e.ρ l) f tmps assign body) w ∧
      RoundIn (FR none) n p.P (e.ρ l) f tmps assign body w fun en w' => ∃ e', Step p e h w e' h' w' ∧ en = .returned (ren e' v) ∧ Und h'.D v
  df : ∀ f args m h rec h', C.df f args m h = some (rec, h') → ∀ (e : Env) (w : World) (n : Nat) (u : FrameMode), Rel p e h w → (∀ a ∈ args, Und h.D a) →
    (match m with | none => u = .returning | some v => u = .panicking [{ v := ren e v, recovered := false }] ∧ Und h.D v) →
    CallsDIn (FR none) n p.P f (args.map (ren e)).toArray u w fun en u' w' => ∃ e', Step p e h w e' h' w' ∧ (∃ x, en = .returned x) ∧ settle u' = (if rec then .returning else u) ∧ (rec = true → m.isSome = true)

theorem about_none {o : Oper} {w : World} {a : Act} {r : Option Nat} : ∀ f, o.about p.P w a.eval = some f → (FR r).fn f := fun _ _ => trivial

theorem step1_sound {r : Option Nat} {C : Calls3} {rd : Bool} {nt n : Nat} {ops : Array Oper} {o : Oper} {s s' : St} {ex : Ex} {a : Act} (hZ : TOk Z p) (hC : COk p C) (hrd : rd = r.isSome) (hnt : nt ≤ 2 ^ 30)
    (hS : SRel p e nt s a w) (hok : opOk p.G nt o = true) (h : step1 Z C rd ops o s = some (ex, s')) {next : Act → World → Prop} {Q : Exit → Act → World → Prop}
    (hn : ex = .normal → ∀ e' a' w', Step p e s.h w e' s'.h w' → SRel p e' nt s' a' w' → next a' w')
    (hp : ∀ v, ex = .panic v → ∀ e' w', Step p e s.h w e' s'.h w' → SRel p e' nt s' a w' → Und s'.h.D v → Q (.panic [{ v := ren e' v, recovered := false }]) a w') :
    if Region.wanted o (yielded ops a.tmps) then o.wpIn (FR r) n p.P a w next Q else (∀ f, o.about p.P w a.eval = some f → (FR r).fn f) ∧ next (a.put o.dst undef) w := by
  simp only [step1, Option.bind_eq_bind] at h
  split at h
  · cases h
  rename_i hsm
  have hsm' : s.h.next < 1000000000 := by
    cases hb : Nat.blt s.h.next 1000000000 with
    | true => exact Nat.blt_eq.mp hb
    | false => rw [hb] at hsm; exact (hsm rfl).elim
  simp only [Option.bind_eq_some_iff] at h
  obtain ⟨b, hb, h⟩ := h
  rw [wantedA_sound hS hb]
  cases b with
  | false =>
    simp only [Bool.false_eq_true, if_false, putK_eq] at h ⊢
    cases h
    exact ⟨about_none, hn rfl e _ w (Step.refl hS.rel) (by simpa using hS.put hnt hok (v := undef) und_undef)⟩
  | true =>
    simp only [if_true, Option.bind_eq_some_iff] at h ⊢
    obtain ⟨out, hout, h⟩ := h
    have hopn : ∀ x ∈ o.op.operands.toList, operandOk p.G x = true := by
      simp only [opOk, Bool.and_eq_true, List.all_eq_true] at hok
      exact hok.2
    have hsound := doOp_sound hZ hS.rel (by omega) hS.erel hopn hout
    refine ⟨about_none, ?_⟩
    have hsem : (∀ d, out ≠ .defer d) → (o.semAt r a.eval) = execOp a.eval o := by
      intro hnd
      cases r with
      | none => rfl
      | some l =>
        refine Oper.semAt_eq (some l) _ o fun c hc => ?_
        unfold doOp at hout
        simp only [hc] at hout
        simp only [Option.map_eq_some_iff] at hout
        obtain ⟨d, _, rfl⟩ := hout
        exact hnd d rfl
    cases out with
    | val v d =>
      simp only [putK_eq, Heap.appK_eq] at h
      cases h
      rw [show (FR r).round = r from rfl, hsem (fun _ => by simp)]
      obtain ⟨e1, w1, hrun, hstep, hu⟩ := hsound
      have hS1 := (hS.step hstep).put hnt hok hu
      rcases hrun with hrun | ⟨hrun, rfl⟩
      · rw [hrun]
        exact hn rfl e1 _ w1 hstep hS1
      · rw [hrun]
        exact hn rfl e1 _ w1 hstep (by simpa using hS1)
    | enter f args =>
      rw [show (FR r).round = r from rfl, hsem (fun _ => by simp)]
      obtain ⟨hrun, hargs, _⟩ := hsound
      rw [hrun]
      simp only [Option.bind_eq_some_iff] at h
      obtain ⟨⟨res, h1⟩, hcall, h⟩ := h
      refine ⟨fun hd => by simp [FR] at hd, ?_⟩
      have hc := hC.fn f args s.h res h1 hcall e w (n - 1) hS.rel hargs
      refine CallsIn.mono (F := FR none) hc ?_
      rintro en w1 ⟨e1, hstep, hres⟩
      cases res with
      | ret v =>
        obtain ⟨rfl, hu⟩ := hres
        simp only [putK_eq] at h
        cases h
        exact hn rfl e1 _ w1 hstep ((hS.step hstep).put hnt hok hu)
      | pan v =>
        obtain ⟨rfl, hu⟩ := hres
        cases h
        exact hp v rfl e1 w1 hstep (hS.step hstep) hu
    | round l args =>
      rw [show (FR r).round = r from rfl, hsem (fun _ => by simp)]
      obtain ⟨hrun, hargs⟩ := hsound
      simp only [Option.bind_eq_some_iff] at h
      obtain ⟨⟨v, h1⟩, hcall, h⟩ := h
      obtain ⟨f, tmps, assign, body, hy, hround⟩ := hC.rd l args s.h v h1 hcall e w (n - 1) hS.rel hargs
      rw [hrun, hy]
      refine ⟨fun hd => by simp [FR] at hd, ?_⟩
      refine RoundIn.mono (F := FR none) hround ?_
      rintro en w1 ⟨e1, hstep, rfl, hu⟩
      simp only [putK_eq] at h
      cases h
      exact hn rfl e1 _ w1 hstep ((hS.step hstep).put hnt hok hu)
    | defer d =>
      simp only at h
      split at h
      · cases h
      rename_i hrd'
      have hr : r = none := by cases r <;> simp_all
      subst hr
      obtain ⟨hrun, hu⟩ := hsound
      rw [show (FR none).round = none from rfl, Oper.semAt_none, hrun]
      simp only [putK_eq] at h
      cases h
      have h1 : SRel p e nt ⟨s.T, s.h, d :: s.ds⟩ { a with defers := renD e d :: a.defers } w :=
        ⟨hS.rel, hS.tmps, hS.tund, by simp [hS.defs], fun d' hd' => by rcases List.mem_cons.1 hd' with rfl | hd'; exact hu; exact hS.dund d' hd'⟩
      exact hn rfl e _ w (Step.refl hS.rel) (by simpa using h1.put hnt hok (v := undef) und_undef)
    | panic v =>
      rw [show (FR r).round = r from rfl, hsem (fun _ => by simp)]
      obtain ⟨hrun, hu⟩ := hsound
      rw [hrun]
      cases h
      exact hp v rfl e w (Step.refl hS.rel) hS hu
    | recover => cases h

/-- A list of operations, in the order of the text. -/
theorem stepL_sound {r : Option Nat} {C : Calls3} {rd : Bool} {nt n : Nat} {ops : Array Oper} (hZ : TOk Z p) (hC : COk p C) (hrd : rd = r.isSome) (hnt : nt ≤ 2 ^ 30) {Q : Exit → Act → World → Prop} :
    ∀ (l : List Oper) (i : Nat) (s s' : St) (ex : Ex) (a : Act) (e : Env) (w : World), (∀ k, ops[i + k]? = l[k]?) → (∀ o ∈ l, opOk p.G nt o = true) → SRel p e nt s a w → stepL Z C rd ops l s = some (ex, s') →
    (ex = .normal → ∀ e' a' w', Step p e s.h w e' s'.h w' → SRel p e' nt s' a' w' → Q .normal a' w') →
    (∀ v, ex = .panic v → ∀ e' a' w', Step p e s.h w e' s'.h w' → SRel p e' nt s' a' w' → Und s'.h.D v → Q (.panic [{ v := ren e' v, recovered := false }]) a' w') →
    wpOpsIn (FR r) n p.P ops Q (List.range' i l.length) a w
  | [], i, s, s', ex, a, e, w, _, _, hS, h, hn, _ => by
    simp only [stepL] at h
    cases h
    exact hn rfl e a w (Step.refl hS.rel) hS
  | o :: l, i, s, s', ex, a, e, w, hi, hok, hS, h, hn, hp => by
    simp only [List.length_cons, List.range'_succ, wpOpsIn]
    have h0 := hi 0
    simp only [Nat.add_zero, List.getElem?_cons_zero] at h0
    rw [h0]
    simp only [stepL] at h
    cases h1 : step1 Z C rd ops o s with
    | none => rw [h1] at h; cases h
    | some res =>
      obtain ⟨ex1, s1⟩ := res
      rw [h1] at h
      refine step1_sound hZ hC hrd hnt hS (hok o (by simp)) h1 ?_ ?_
      · rintro rfl e1 a1 w1 hst hS1
        simp only at h
        refine stepL_sound hZ hC hrd hnt l (i + 1) s1 s' ex a1 e1 w1 (fun k => by have := hi (k + 1); rw [List.getElem?_cons_succ] at this; rw [← this]; congr 1; omega)
          (fun o' ho' => hok o' (by simp [ho'])) hS1 h ?_ ?_
        · intro hx e2 a2 w2 hst2 hS2
          exact hn hx e2 a2 w2 (hst.trans hst2) hS2
        · intro v hx e2 a2 w2 hst2 hS2 hu
          exact hp v hx e2 a2 w2 (hst.trans hst2) hS2 hu
      · rintro v rfl e1 w1 hst hS1 hu
        simp only at h
        cases h
        exact hp v rfl e1 a w1 hst hS1 hu
end Go.Eng
