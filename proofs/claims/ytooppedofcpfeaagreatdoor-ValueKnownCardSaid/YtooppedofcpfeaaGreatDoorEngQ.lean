/- Calls: what the evaluator says of a call, the machine does. -/
import Derived.Test.YtooppedofcpfeaaGreatDoorEngP
set_option linter.all false
namespace Go.Eng
variable [Shift]
variable {p : Par} {e e' e'' : Env} {H H' : Heap} {w w' w'' : World} {Z : Tab}

def enterT : List Value → Nat → Tr Value → Tr Value
  | [], _, T => T
  | v :: vs, i, T => enterT vs (i + 1) (putA T (some i) v)
theorem enterK_eq {β : Type} : ∀ (vs : List Value) (i : Nat) (T : Tr Value) (k : Tr Value → β), enterK vs i T k = k (enterT vs i T)
  | [], _, _, _ => rfl
  | v :: vs, i, T, k => by simp only [enterK, enterT, putK_eq]; exact enterK_eq vs (i + 1) _ k
theorem enterT_get : ∀ (vs : List Value) (i : Nat) (T : Tr Value) (t : Nat), i + vs.length < 2 ^ 40 → (enterT vs i T).get t = if i ≤ t ∧ t < i + vs.length then vs[t - i]? else T.get t
  | [], i, T, t, h => by simp only [enterT, List.length_nil]; rw [if_neg (by omega)]
  | v :: vs, i, T, t, h => by
    simp only [List.length_cons] at h
    simp only [enterT, List.length_cons]
    rw [enterT_get vs (i + 1) _ t (by omega)]
    by_cases h1 : i + 1 ≤ t ∧ t < i + 1 + vs.length
    · rw [if_pos h1, if_pos (by omega)]
      obtain ⟨k, hk⟩ : ∃ k, t - i = k + 1 := ⟨t - i - 1, by omega⟩
      rw [hk, List.getElem?_cons_succ]; congr 1; omega
    · rw [if_neg h1]
      simp only [putA]
      rw [Tr.get_set _ _ _ _ (by omega)]
      by_cases h2 : t = i
      · subst h2; rw [if_pos rfl, if_pos (by omega)]; simp
      · rw [if_neg h2, if_neg (by omega)]
def setAllT : Tr Value → List Tmp → List Value → Tr Value
  | T, t :: ts, v :: vs => setAllT (putA T (some t) v) ts vs
  | T, _, _ => T
theorem setAllK_eq {β : Type} : ∀ (ts : List Tmp) (vs : List Value) (T : Tr Value) (k : Tr Value → β), setAllK T ts vs k = k (setAllT T ts vs)
  | [], vs, T, k => by simp [setAllK, setAllT]
  | t :: ts, [], T, k => by simp [setAllK, setAllT]
  | t :: ts, v :: vs, T, k => by simp only [setAllK, setAllT, putK_eq]; exact setAllK_eq ts vs _ k

/-- The frame at its beginning. -/
theorem SRel.enter (hR : Rel p e H w) {args : List Value} (hu : ∀ a ∈ args, Und H.D a) {nt : Nat} (hn : args.length ≤ nt) (hnt : nt ≤ 2 ^ 30) :
    SRel p e nt ⟨enterT args 0 .e, H, []⟩ { tmps := (args.map (ren e)).toArray ++ Array.replicate (nt - (args.map (ren e)).toArray.size) undef, defers := [] } w := by
  refine ⟨hR, ⟨by simp; omega, ?_⟩, ?_, rfl, by simp⟩
  · intro t v hv
    rw [enterT_get args 0 .e t (by omega)] at hv
    split at hv
    · rename_i ht
      simp only [Nat.sub_zero] at hv
      rw [Array.getElem?_append_left (by simp; omega)]
      simp [hv]
    · cases hv
  · intro t v hv
    simp only at hv
    rw [enterT_get args 0 .e t (by omega)] at hv
    split at hv
    · exact hu v (List.mem_of_getElem? hv)
    · cases hv

theorem setAll_sound {nt : Nat} {D : Nat → Prop} : ∀ (ts : List Tmp) (vs : List Value) (T : Tr Value) (arr : Array Value), nt ≤ 2 ^ 30 → (∀ q ∈ ts, q < nt) → (∀ v ∈ vs, Und D v) → TRel e nt T arr → TUnd D T →
    TRel e nt (setAllT T ts vs) ((ts.zip (vs.map (ren e))).foldl (fun tmps (t, a) => tmps.setIfInBounds t a) arr) ∧ TUnd D (setAllT T ts vs)
  | [], vs, T, arr, hnt, hts, hvs, hT, hU => by simpa [setAllT] using ⟨hT, hU⟩
  | t :: ts, [], T, arr, hnt, hts, hvs, hT, hU => by simpa [setAllT] using ⟨hT, hU⟩
  | t :: ts, v :: vs, T, arr, hnt, hts, hvs, hT, hU => by
    simp only [setAllT, List.map_cons, List.zip_cons_cons, List.foldl_cons]
    have ht : t < nt := hts t (by simp)
    have hget : ∀ q, (putA T (some t) v).get q = if q = t then some v else T.get q := fun q => Tr.get_set _ _ _ _ (by have : @LT.lt Nat _ t nt := ht; omega)
    refine setAll_sound ts vs _ _ hnt (fun q hq => hts q (by simp [hq])) (fun x hx => hvs x (by simp [hx])) ⟨by simp [hT.1], ?_⟩ ?_
    · intro q u hq
      rw [hget] at hq
      split at hq
      · rename_i hqt
        subst hqt
        cases hq
        simp [hT.1, ht]
      · rename_i hqt
        rw [Array.getElem?_setIfInBounds_ne (Ne.symm hqt)]
        exact hT.2 q u hq
    · intro q u hq
      rw [hget] at hq
      split at hq
      · cases hq; exact hvs v (by simp)
      · exact hU q u hq

/-! ### Deferred functions -/
/-- The stack above which a deferred function runs: the mode of the frame that called it. -/
def KRel (e : Env) (m : Option Value) (u : FrameMode) (rec : Bool) (c₀ : Frame) (cs₀ : List Frame) (cs : List Frame) : Prop :=
  ∃ u', cs = { c₀ with mode := u' } :: cs₀ ∧ (rec = false → u' = u) ∧ (rec = true → ∃ v, m = some v ∧ u' = .panicking [{ v := ren e v, recovered := true }])

def PostS (p : Par) (e : Env) (H : Heap) (w : World) (nt : Nat) (e0 : Env) (m : Option Value) (u : FrameMode) (c₀ : Frame) (cs₀ : List Frame) (ex : Ex) (s' : St) (rec' : Bool) (E : Exit) (a' : Act) (cs' : List Frame) (w' : World) : Prop :=
  Post p e H w nt ex s' E a' w' ∧ KRel e0 m u rec' c₀ cs₀ cs'

theorem stepS_sound (hZ : TOk Z p) {n nt : Nat} {ops : Array Oper} (hnt : nt ≤ 2 ^ 30) {e0 : Env} {m : Option Value} {u : FrameMode} {c₀ : Frame} {cs₀ : List Frame} {D0 : Nat → Prop} (hm : MRel e0 D0 m u) {Q : Exit → Act → List Frame → World → Prop} :
    ∀ (l : List Oper) (i : Nat) (s s' : St) (rec rec' : Bool) (a : Act) (cs : List Frame) (e : Env) (w : World), (∀ k, ops[i + k]? = l[k]?) → (∀ o ∈ l, opOk p.G nt o = true) → SRel p e nt s a w → KRel e0 m u rec c₀ cs₀ cs →
    Agree D0 e0 e → (∀ b, D0 b → s.h.D b) → stepS Z ops l s m rec = some (s', rec') →
    (∀ e' a' w' cs', Step p e s.h w e' s'.h w' → SRel p e' nt s' a' w' → KRel e0 m u rec' c₀ cs₀ cs' → Q .normal a' cs' w') →
    wpOpsSIn (FR none) n p.P ops Q (List.range' i l.length) a cs w
  | [], i, s, s', rec, rec', a, cs, e, w, _, _, hS, hK, _, _, h, hn => by
    simp only [stepS] at h
    cases h
    exact hn e a w cs (Step.refl hS.rel) hS hK
  | o :: l, i, s, s', rec, rec', a, cs, e, w, hi, hok, hS, hK, hag, hD0, h, hn => by
    simp only [List.length_cons, List.range'_succ, wpOpsSIn]
    have h0 := hi 0
    simp only [Nat.add_zero, List.getElem?_cons_zero] at h0
    rw [h0]
    simp only [stepS, Option.bind_eq_bind] at h
    split at h
    · cases h
    rename_i hsm
    have hsm' : s.h.next < 1000000000 := by
      cases hb : Nat.blt s.h.next 1000000000 with
      | true => exact Nat.blt_eq.mp hb
      | false => rw [hb] at hsm; exact (hsm rfl).elim
    simp only [Option.bind_eq_some_iff] at h
    obtain ⟨b, hb, h⟩ := h
    refine ⟨fun _ _ => trivial, ?_⟩
    rw [wantedA_sound hS hb]
    have hi' : ∀ k, ops[i + 1 + k]? = l[k]? := fun k => by have := hi (k + 1); rw [List.getElem?_cons_succ] at this; rw [← this]; congr 1; omega
    have hok' : ∀ o' ∈ l, opOk p.G nt o' = true := fun o' ho' => hok o' (by simp [ho'])
    have hoko := hok o (by simp)
    cases b with
    | false =>
      simp only [Bool.false_eq_true, if_false, putK_eq] at h ⊢
      have hS1 := hS.put hnt hoko (v := undef) und_undef
      rw [ren_undef] at hS1
      exact stepS_sound hZ hnt hm l (i + 1) _ s' rec rec' _ cs e w hi' hok' hS1 hK hag hD0 h hn
    | true =>
      simp only [if_true, Option.bind_eq_some_iff] at h ⊢
      obtain ⟨out, hout, h⟩ := h
      have hopn : ∀ x ∈ o.op.operands.toList, operandOk p.G x = true := by
        simp only [opOk, Bool.and_eq_true, List.all_eq_true] at hoko
        exact hoko.2
      have hsound := doOp_sound hZ hS.rel (by omega) hS.erel hopn hout
      cases out with
      | val v d =>
        simp only [putK_eq, Heap.appK_eq] at h
        obtain ⟨e1, w1, hrun, hstep, hu⟩ := hsound
        have hS1 := (hS.step hstep).put hnt hoko hu
        have next : wpOpsSIn (FR none) n p.P ops Q (List.range' (i + 1) l.length) (a.put o.dst (ren e1 v)) cs w1 :=
          stepS_sound hZ hnt hm l (i + 1) _ s' rec rec' _ cs e1 w1 hi' hok' hS1 hK (hag.trans hstep.agree hD0) (fun b hb => hstep.sub b (hD0 b hb)) h
            (fun e2 a2 w2 cs2 hst hS2 hK2 => hn e2 a2 w2 cs2 (hstep.trans hst) hS2 hK2)
        rcases hrun with hrun | ⟨hrun, rfl⟩
        · rw [hrun]; exact next
        · rw [hrun]; simpa using next
      | recover =>
        rw [show (execOp a.eval o).run p.P w = .ok .recover w from hsound]
        simp only
        obtain ⟨u', rfl, hr1, hr2⟩ := hK
        have other : (m = none ∨ rec = true) → wpOpsSIn (FR none) n p.P ops Q (List.range' (i + 1) l.length) (a.put o.dst .nilIface) ({ c₀ with mode := u' } :: cs₀) w := by
          intro hmr
          have h' : stepS Z ops l ⟨putA s.T o.dst .nilIface, s.h, s.ds⟩ m rec = some (s', rec') := by
            rcases hmr with rfl | rfl
            · simpa only [putK_eq] using h
            · cases m <;> simpa only [putK_eq] using h
          have hS1 := hS.put hnt hoko (v := .nilIface) und_nilIface
          rw [ren_nilIface] at hS1
          exact stepS_sound hZ hnt hm l (i + 1) _ s' rec rec' _ _ e w hi' hok' hS1 ⟨u', rfl, hr1, hr2⟩ hag hD0 h' hn
        cases m with
        | none =>
          have hrf : rec = false := by
            cases rec with
            | false => rfl
            | true => obtain ⟨v, hv, _⟩ := hr2 rfl; cases hv
          have hu' : u' = .returning := (hr1 hrf).trans hm
          have : recoverD ({ c₀ with mode := u' } :: cs₀) = none := by simp [recoverD, hu']
          rw [this]
          exact other (.inl rfl)
        | some v =>
          cases rec with
          | true =>
            obtain ⟨v', hv', hu'⟩ := hr2 rfl
            have : recoverD ({ c₀ with mode := u' } :: cs₀) = none := by simp [recoverD, hu']
            rw [this]
            exact other (.inr rfl)
          | false =>
            have hu' : u' = .panicking [{ v := ren e0 v, recovered := false }] := (hr1 rfl).trans hm.1
            have : recoverD ({ c₀ with mode := u' } :: cs₀) = some (ren e0 v, { c₀ with mode := .panicking [{ v := ren e0 v, recovered := true }] } :: cs₀) := by
              simp [recoverD, hu']
            rw [this]
            simp only [putK_eq] at h ⊢
            have huv : Und s.h.D v := hm.2.mono hD0
            have hS1 := hS.put hnt hoko huv
            rw [← hm.2.eq hag] at hS1
            exact stepS_sound hZ hnt hm l (i + 1) _ s' true rec' _ _ e w hi' hok' hS1 ⟨_, rfl, (fun hx => by cases hx), fun _ => ⟨v, rfl, rfl⟩⟩ hag hD0 h hn
      | _ => cases h

theorem runS_sound {fuel : Nat} {C : Calls3} (hZ : TOk Z p) (hC : COk p C) (hD : DOk Z p C) (hR : ROk Z p fuel C) {x : Ctx} (hnt : x.nt ≤ 2 ^ 30) (hr : x.round = false) {n : Nat}
    {e0 : Env} {m : Option Value} {u : FrameMode} {c₀ : Frame} {cs₀ : List Frame} {D0 : Nat → Prop} (hm : MRel e0 D0 m u) (c : Code) :
    ∀ (s s' : St) (rec rec' : Bool) (ex : Ex) (e : Env) (w : World) (a : Act) (cs : List Frame), SRel p e x.nt s a w → KRel e0 m u rec c₀ cs₀ cs → Agree D0 e0 e → (∀ b, D0 b → s.h.D b) → cOk p.G x.nt c = true →
      runS Z fuel C x m c s rec = some (ex, s', rec') → c.wpSIn (FR none) n p.P (PostS p e s.h w x.nt e0 m u c₀ cs₀ ex s' rec') a cs w := by
  have plainRun : ∀ (c : Code) (s s' : St) (rec rec' : Bool) (ex : Ex) (e : Env) (w : World) (a : Act) (cs : List Frame), SRel p e x.nt s a w → KRel e0 m u rec c₀ cs₀ cs → cOk p.G x.nt c = true →
      ((run Z fuel C x c s).map fun r => (r.1, r.2, rec)) = some (ex, s', rec') → c.wpSIn (FR none) n p.P (PostS p e s.h w x.nt e0 m u c₀ cs₀ ex s' rec') a cs w := by
    intro c s s' rec rec' ex e w a cs hS hK hok h
    simp only [Option.map_eq_some_iff] at h
    obtain ⟨⟨ex1, s1⟩, hrun, heq⟩ := h
    cases heq
    refine wpSIn_of_wpIn rfl (wpIn_mono (run_sound hZ hC hD hR hnt (r := none) (by simp [hr]) c s s1 ex1 e w a hS hok hrun) ?_)
    intro E a1 w1 hp
    exact ⟨hp, hK⟩
  induction c with
  | region id ops draw =>
    intro s s' rec rec' ex e w a cs hS hK hag hD0 hok h
    simp only [runS] at h
    split at h
    · split at h
      · cases h
      · rename_i hdraw
        have : draw = false := by simpa using hdraw
        subst this
        simp only [Option.map_eq_some_iff] at h
        obtain ⟨⟨s1, r1⟩, hstep, heq⟩ := h
        cases heq
        simp only [cOk, List.all_eq_true] at hok
        refine wpSIn_region ?_
        rw [List.range_eq_range', ← Array.length_toList]
        exact stepS_sound hZ hnt hm ops.toList 0 s s1 rec r1 a cs e w (fun k => by simp) hok hS hK hag hD0 hstep
          (fun e' a' w' cs' hst hS' hK' => ⟨⟨e', hst, hS', rfl⟩, hK'⟩)
    · exact plainRun _ s s' rec rec' ex e w a cs hS hK hok h
  | seq c1 c2 ih1 ih2 =>
    intro s s' rec rec' ex e w a cs hS hK hag hD0 hok h
    simp only [cOk, Bool.and_eq_true] at hok
    simp only [runS] at h
    cases h1 : runS Z fuel C x m c1 s rec with
    | none => rw [h1] at h; cases h
    | some res =>
      obtain ⟨ex1, s1, r1⟩ := res
      rw [h1] at h
      refine wpSIn_seq ?_
      intro b k hb hro hF hroom
      obtain ⟨E, a1, cs1, w1, hl, ⟨hp, hK1⟩, harr⟩ := ih1 s s1 rec r1 ex1 e w a cs hS hK hag hD0 hok.1 h1 b k hb hro hF hroom
      refine ⟨E, a1, cs1, w1, hl, ?_, harr⟩
      obtain ⟨e1, hst, hS1, hE⟩ := hp
      cases ex1 with
      | normal =>
        cases hE
        intro b k hb hro hF hroom
        obtain ⟨E2, a2, cs2, w2, hl2, ⟨hp2, hK2⟩, harr2⟩ := ih2 s1 s' r1 rec' ex e1 w1 a1 cs1 hS1 hK1 (hag.trans hst.agree hD0) (fun b hb => hst.sub b (hD0 b hb)) hok.2 h b k hb hro hF hroom
        exact ⟨E2, a2, cs2, w2, hl2, ⟨hp2.pre hst, hK2⟩, harr2⟩
      | exit i => cases hE; cases h; exact ⟨⟨e1, hst, hS1, rfl⟩, hK1⟩
      | ret => cases hE; cases h; exact ⟨⟨e1, hst, hS1, rfl⟩, hK1⟩
      | panic v => obtain ⟨rfl, hu⟩ := hE; cases h; exact ⟨⟨e1, hst, hS1, rfl, hu⟩, hK1⟩
  | cond c c1 c2 ih1 ih2 =>
    intro s s' rec rec' ex e w a cs hS hK hag hD0 hok h
    simp only [cOk, Bool.and_eq_true] at hok
    simp only [runS] at h
    split at h
    · rename_i t ht
      refine wpSIn_cond (ev_bool hS hok.1.1 ht) ?_
      cases t with
      | true => exact ih1 s s' rec rec' ex e w a cs hS hK hag hD0 hok.1.2 h
      | false => exact ih2 s s' rec rec' ex e w a cs hS hK hag hD0 hok.2 h
    · cases h
  | _ => intro s s' rec rec' ex e w a cs hS hK hag hD0 hok h; exact plainRun _ s s' rec rec' ex e w a cs hS hK hok h
end Go.Eng
