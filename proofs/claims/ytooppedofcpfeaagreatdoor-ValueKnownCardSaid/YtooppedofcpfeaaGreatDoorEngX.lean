/- Regions that draw their order are followed soundly; so are all calls. -/
import Derived.Test.YtooppedofcpfeaaGreatDoorEngW
set_option linter.all false
namespace Go.Eng
variable [Shift]
variable {p : Par} {e e' e'' : Env} {H H' : Heap} {w w' w'' : World} {Z : Tab}

theorem count_set {l : List Bool} {i : Nat} (h : l[i]? = some false) : (l.set i true).count false + 1 = l.count false := by
  induction l generalizing i with
  | nil => simp at h
  | cons x l ih =>
    cases i with
    | zero =>
      simp only [List.getElem?_cons_zero, Option.some.injEq] at h
      subst h
      simp
    | succ i =>
      simp only [List.getElem?_cons_succ] at h
      have := ih h
      simp only [List.set_cons_succ, List.count_cons]
      omega

section
variable {C : Calls3} {nt : Nat} {ops : Array Oper} {A W : Tr Nat} {T : Nat → Tr Value} {Hs : Nat → Heap} {Kd lvo hi lo : Nat → Nat}
variable {e0 : Env} {w0 : World} {ds : List Deferred}
variable (R : Ref Z p.G C nt ops A W T Hs Kd lvo hi lo)
include R

theorem Ref.all_listed {listed : Array Bool} (hsz : listed.size = ops.size) (hr : Region.ready .any ops listed = []) : ∀ m, m < ops.size → listed.getD m false = true := by
  intro m
  induction m using Nat.strongRecOn with
  | _ m ih =>
    intro hm
    cases hL : listed.getD m false with
    | true => rfl
    | false =>
      exfalso
      obtain ⟨o, ho⟩ := R.get hm
      have : m ∈ Region.ready .any ops listed := by
        rw [mem_ready]
        refine ⟨?_, o, ho, fun x hx hb => ?_⟩
        · have hm' : m < listed.size := by omega
          simp [Array.getD, hm'] at hL ⊢
          exact hL
        · have := R.bind m o ho x hx hb
          exact ih x.on this (by omega)
      rw [hr] at this
      cases this

theorem Ref.explore (hZ : TOk Z p) (hC : COk p C) (hnt : nt ≤ 2 ^ 30) (h0 : Rel p e0 (Hs 0) w0) {r : Option Nat} {n : Nat} {Q : Exit → Act → World → Prop}
    (hQ : ∀ L j e a w, (∀ m, m < ops.size → L m = true) → Inv p W T Hs Kd lvo ops.size nt e0 w0 ds L j e a w → Q .normal a w) :
    ∀ (fuel : Nat) (listed : Array Bool) (j : Nat) (e : Env) (a : Act) (w : World), listed.size = ops.size → listed.toList.count false ≤ fuel →
      (∀ m, m < ops.size → listed.getD m false = true → ∀ q, bitA A m q = true → listed.getD q false = true) →
      Inv p W T Hs Kd lvo ops.size nt e0 w0 ds (fun m => listed.getD m false) j e a w → wpAnyIn (FR r) n p.P .any ops Q fuel listed a w := by
  intro fuel
  induction fuel with
  | zero =>
    intro listed j e a w hsz hcount hcl h
    have hr : Region.ready .any ops listed = [] := by
      apply List.eq_nil_iff_forall_not_mem.2
      intro m hm
      obtain ⟨h1, o, ho, _⟩ := mem_ready.1 hm
      have hmo := (Array.getElem?_eq_some_iff.1 ho).1
      have hm' : m < listed.size := by omega
      have h2 : listed[m] = false := by simpa [Array.getD, hm'] using h1
      have h3 : false ∈ listed.toList := by
        rw [← h2]; exact Array.mem_toList_iff.2 (Array.getElem_mem hm')
      have := List.count_pos_iff.2 h3
      omega
    exact ⟨hr, hQ _ j e a w (R.all_listed hsz hr) h⟩
  | succ fuel ih =>
    intro listed j e a w hsz hcount hcl h
    refine ⟨fun hr => hQ _ j e a w (R.all_listed hsz hr) h, ?_⟩
    intro i hir
    obtain ⟨h1, o, ho, hpre⟩ := mem_ready.1 hir
    have hi' := (Array.getElem?_eq_some_iff.1 ho).1
    have hil : i < listed.size := by omega
    have h2 : listed[i] = false := by simpa [Array.getD, hil] using h1
    have hLi : listed.getD i false = false := by simp [Array.getD, hil, h2]
    have hanc : ∀ q, bitA A i q = true → listed.getD q false = true := by
      intro q hq
      obtain ⟨x, hx, hb, hor⟩ := R.anc i o ho q hq
      have hxl := hpre x hx hb
      rcases hor with rfl | hor
      · exact hxl
      · have := R.bind i o ho x hx hb
        exact hcl x.on (by omega) hxl q hor
    refine R.opStep (L := fun m => listed.getD m false) hZ hC hnt h0 h hi' hLi hcl hanc ?_
    intro j1 e1 a1 w1 hinv
    have hget : ∀ m, (listed.setIfInBounds i true).getD m false = upd (fun m => listed.getD m false) i m := by
      intro m
      by_cases hmi : m = i
      · subst hmi; simp [upd, Array.getD, hil]
      · have : i ≠ m := fun hx => hmi hx.symm
        simp only [upd, if_neg hmi]
        simp only [Array.getD_eq_getD_getElem?, Array.getElem?_setIfInBounds_ne this]
    refine ih _ j1 e1 a1 w1 (by simpa using hsz) ?_ ?_ ?_
    · have := count_set (l := listed.toList) (i := i) (by simp [hil, h2])
      rw [Array.toList_setIfInBounds]
      omega
    · intro m hm hLm q hq
      rw [hget] at hLm ⊢
      by_cases hqi : q = i
      · simp [upd, hqi]
      · simp only [upd, if_neg hqi]
        by_cases hmi : m = i
        · subst hmi; exact hanc q hq
        · simp only [upd, if_neg hmi] at hLm
          exact hcl m hm hLm q hq
    · rw [show (fun m => (listed.setIfInBounds i true).getD m false) = upd (fun m => listed.getD m false) i from funext hget]
      exact hinv
end

theorem chkAll_spec {A W : Tr Nat} {ks lvo : List Nat} {hs : List Heap} {ops : Array Oper} : ∀ (l : List Oper) (rs : List DRec) (i : Nat), chkAll Z A W ks lvo hs ops l rs i = true →
    ∀ k o r, l[k]? = some o → rs[k]? = some r → chkOp Z A W ks lvo hs ops (i + k) o r = true
  | [], rs, i, _, k, o, r, ho, _ => by simp at ho
  | o :: os, [], i, _, k, o', r, _, hr => by simp at hr
  | o :: os, r :: rs, i, h, k, o', r', ho, hr => by
    simp only [chkAll, Bool.and_eq_true] at h
    cases k with
    | zero =>
      simp only [List.getElem?_cons_zero, Option.some.injEq] at ho hr
      subst ho; subst hr
      exact h.1
    | succ k =>
      simp only [List.getElem?_cons_succ] at ho hr
      have := chkAll_spec os rs (i + 1) h.2 k o' r' ho hr
      rw [show i + (k + 1) = i + 1 + k from by omega]; exact this

theorem chkTmp_spec {A W : Tr Nat} {lvo : List Nat} {i lp t : Nat} (h : chkTmp A W lvo i lp t = true) : ∀ j, W.get t = some j → (j < i → bitA A i j = true ∧ lvo.getD j 0 ≤ lp) ∧ (i < j → bitA A j i = true) := by
  intro j hj
  simp only [chkTmp, hj] at h
  refine ⟨fun hji => ?_, fun hij => ?_⟩
  · rw [show Nat.blt j i = true from Nat.blt_eq.mpr hji] at h
    simp only [cond, Bool.and_eq_true] at h
    exact ⟨h.1, Nat.le_of_ble_eq_true h.2⟩
  · have h1 : Nat.blt j i = false := by
      cases hb : Nat.blt j i with
      | false => rfl
      | true => have := Nat.blt_eq.mp hb; omega
    rw [h1, show Nat.blt i j = true from Nat.blt_eq.mpr hij] at h
    exact h

theorem stepD_ref {C : Calls3} {rd : Bool} {nt : Nat} {ops : Array Oper} {s s' : St} {ex : Ex} {G : Nat} (hnt : nt ≤ 2 ^ 30) (hok : ∀ o ∈ ops.toList, opOk G nt o = true) (h : stepD Z C rd ops s = some (ex, s')) :
    ex = .normal ∧ s'.ds = s.ds ∧ ∃ A W T Hs Kd lvo hi lo, Ref Z G C nt ops A W T Hs Kd lvo hi lo ∧ T 0 = s.T ∧ Hs 0 = s.h ∧ T ops.size = s'.T ∧ Hs ops.size = s'.h := by
  simp only [stepD] at h
  cases hc : (Nat.blt ops.size 1000 && s.h.ghost.isEmpty && Nat.blt s.h.next 1000000000) with
  | false => rw [hc] at h; cases h
  | true =>
  rw [hc] at h
  simp only [cond, Bool.and_eq_true, Nat.blt_eq, List.isEmpty_iff] at h hc
  obtain ⟨⟨hsz, hgh⟩, hsm⟩ := hc
  split at h <;> try (cases h; done)
  rename_i A W rs sf hA hW hfwd
  cases hchk : chkAll Z A W (rs.map (·.kind)) (lvos A (rs.map (·.kind)) (rs.map (·.kind)) 0) (rs.map (·.h) ++ [sf.h]) ops ops.toList rs 0 with
  | false => rw [hchk] at h; cases h
  | true =>
  rw [hchk] at h
  simp only [cond, Option.some.injEq, Prod.mk.injEq] at h
  obtain ⟨rfl, rfl⟩ := h
  obtain ⟨hlen, hT0, hH0, hds, hall⟩ := fwd_spec _ _ _ _ hfwd
  have hlen' : rs.length = ops.size := by simpa using hlen
  obtain ⟨_, hmask⟩ := masks_spec ops.toList 0 .e A (by simp; omega) hA
  obtain ⟨_, hwr, hwr'⟩ := writers_spec hnt ops.toList 0 .e W (fun o ho d hd => by
    have := hok o ho
    simp only [opOk, hd, Bool.and_eq_true] at this
    exact Nat.blt_eq.mp this.1) hW
  have hchk' := chkAll_spec _ _ _ hchk
  generalize hks : rs.map (·.kind) = ks at hchk'
  have hksl : ks.length = ops.size := by rw [← hks]; simpa using hlen'
  have hkd : ∀ i, ks.getD i 4 = Ki rs i := by
    intro i
    rw [← hks]
    unfold Ki
    cases hr : rs[i]? with
    | none => simp [hr]
    | some r => simp [hr]
  have hrs : ∀ i, i < ops.size → ∃ r, rs[i]? = some r ∧ r.kind = Ki rs i ∧ r.T = Ti rs sf i ∧ r.h = Hi rs sf i := by
    intro i hi
    have hi' : i < rs.length := by omega
    refine ⟨rs[i], by simp [hi'], ?_, ?_, ?_⟩
    · simp [Ki, hi']
    · simp [Ti, hi']
    · simp [Hi, hi']
  have hop : ∀ (i : Nat) (o : Oper), ops[i]? = some o → ops.toList[i]? = some o := fun i o h => by simpa using h
  have hlt : ∀ (i : Nat) (o : Oper), ops[i]? = some o → i < ops.size := fun i o h => (Array.getElem?_eq_some_iff.1 h).1
  have hget : ∀ i, i < ops.size → ∃ o, ops[i]? = some o := fun i h => ⟨ops[i], by simp [h]⟩
  have hopc : ∀ (i : Nat) (o : Oper), ops[i]? = some o → ∃ r, r.kind = Ki rs i ∧ r.T = Ti rs sf i ∧ r.h = Hi rs sf i ∧
      (∀ x ∈ o.op.operands.toList, chkOpnd A W (lvos A ks ks 0) i (cond (isEff (Ki rs i)) i (hiOf A i ks 0)) x = true) ∧
      chkGuard A W (lvos A ks ks 0) i (cond (isEff (Ki rs i)) i (hiOf A i ks 0)) ops o = true ∧
      cond (Nat.beq (Ki rs i) 1) (chkLoad Z (rs.map (·.h) ++ [sf.h]) (loOf A i ks 0) (hiOf A i ks 0) r o.op) (cond (Nat.beq (Ki rs i) 3) (Nat.ble i (loOf A i ks 0)) (!Nat.beq (Ki rs i) 5)) = true := by
    intro i o ho
    obtain ⟨r, hr, h1, h2, h3⟩ := hrs i (hlt i o ho)
    have := hchk' i o r (hop i o ho) hr
    simp only [chkOp, forceNat_eq, Nat.zero_add, h1, Bool.and_eq_true, List.all_eq_true] at this
    exact ⟨r, h1, h2, h3, this.1.1, this.1.2, this.2⟩
  refine ⟨rfl, hds, A, W, Ti rs sf, Hi rs sf, Ki rs, fun i => (lvos A ks ks 0).getD i 0, fun i => hiOf A i ks 0, fun i => loOf A i ks 0, ?_, hT0, hH0, ?_, ?_⟩
  · refine ⟨hsz, ?_, ?_, ?_, ?_, ?_, ?_, ?_, ?_, ?_, ?_, ?_, ?_, ?_, ?_, ?_, ?_, ?_⟩
    · intro i o ho
      exact (hall i o (hop i o ho)).1
    · intro i hi
      obtain ⟨o, ho⟩ := hget i hi
      exact (hall i o (hop i o ho)).2.1
    · intro i hi
      cases i with
      | zero => rw [hH0]; exact hsm
      | succ i =>
        obtain ⟨o, ho⟩ := hget i (by omega)
        exact (hall i o (hop i o ho)).2.2.1
    · intro i hi
      cases i with
      | zero => rw [hH0]; exact hgh
      | succ i =>
        obtain ⟨o, ho⟩ := hget i (by omega)
        exact (hall i o (hop i o ho)).2.2.2
    · intro i o ho x hx hb
      obtain ⟨m, _, hm⟩ := hmask i o (hop i o ho)
      have := (maskOf_spec _ _ hm).1 x (by simpa using hx) hb
      omega
    · intro i o ho q hq
      obtain ⟨m, hAm, hm⟩ := hmask i o (hop i o ho)
      rw [Nat.zero_add] at hAm
      simp only [bitA, hAm] at hq
      obtain ⟨x, hx, hb⟩ := (maskOf_spec _ _ hm).2 q hq
      exact ⟨x, by simpa using hx, hb⟩
    · intro i o d ho hd
      have := hwr i o d (hop i o ho) hd
      rw [Nat.zero_add] at this; exact this
    · intro d i hdi
      rcases hwr' d i hdi with hx | ⟨q, o, ho, hd, rfl⟩
      · simp [Tr.get] at hx
      · exact ⟨o, by simpa using ho, hd⟩
    · intro i o ho
      exact hok o (List.mem_of_getElem? (hop i o ho))
    · intro i
      obtain ⟨h1, h2, h3⟩ := hiOf_spec (A := A) (i := i) ks 0
      refine ⟨by omega, fun hlt => ?_⟩
      have := h3 (hiOf A i ks 0) (by omega) (by omega)
      rw [hkd, Nat.zero_add] at this
      exact this
    · intro i
      obtain ⟨h1, h2⟩ := loOf_spec (A := A) (i := i) ks 0
      refine ⟨by omega, fun m hm he => ?_⟩
      have := h2 m (by omega) (by rw [hkd]; exact he)
      rw [Nat.zero_add] at this; exact this
    · intro i hi
      have := lvos_spec (A := A) (all := ks) ks 0 i (by omega)
      rw [hkd, Nat.zero_add] at this
      exact this
    · intro i o ho x hx t hxt q hq
      obtain ⟨r, _, _, _, h4, _, _⟩ := hopc i o ho
      have := h4 x hx
      subst hxt
      exact chkTmp_spec this q hq
    · intro i o ho g c d hg hd q hq
      obtain ⟨r, _, _, _, _, h5, _⟩ := hopc i o ho
      simp only [chkGuard, hg, hd] at h5
      have := chkTmp_spec h5 q hq
      exact ⟨fun hx => (this.1 hx).1, this.2⟩
    · intro i o ho hk1
      obtain ⟨r, _, h2, h3, _, _, h6⟩ := hopc i o ho
      rw [hk1] at h6
      have h6 : chkLoad Z (rs.map (·.h) ++ [sf.h]) (loOf A i ks 0) (hiOf A i ks 0) r o.op = true := h6
      unfold chkLoad at h6
      split at h6 <;> try (cases h6; done)
      rename_i t x hop'
      split at h6 <;> try (cases h6; done)
      rename_i ad had
      split at h6 <;> try (cases h6; done)
      rename_i v hv
      rw [h2] at had
      rw [h3] at hv
      refine ⟨t, x, ad, v, hop', had, hv, fun q hq1 hq2 => ?_⟩
      have hq3 : q ≤ ops.size := by
        have := (hiOf_spec (A := A) (i := i) ks 0).2.1
        omega
      have hmem : Hi rs sf q ∈ ((rs.map (·.h) ++ [sf.h]).drop (loOf A i ks 0)).take (hiOf A i ks 0 + 1 - loOf A i ks 0) := by
        apply List.mem_of_getElem? (i := q - loOf A i ks 0)
        rw [List.getElem?_take, if_pos (by omega), List.getElem?_drop, show loOf A i ks 0 + (q - loOf A i ks 0) = q from by omega]
        by_cases hqs : q < rs.length
        · rw [List.getElem?_append_left (by simpa using hqs)]
          simp [Hi, hqs]
        · have : q = rs.length := by omega
          subst this
          rw [List.getElem?_append_right (by simp)]
          simp [Hi]
      have := (List.all_eq_true.1 h6) _ hmem
      split at this
      · rename_i v' hv'
        rw [hv', sameV_eq _ _ _ this]
      · cases this
    · intro i hi hk3
      obtain ⟨o, ho⟩ := hget i hi
      obtain ⟨r, _, _, _, _, _, h6⟩ := hopc i o ho
      rw [hk3] at h6
      exact Nat.le_of_ble_eq_true h6
    · intro i hi hk5
      obtain ⟨o, ho⟩ := hget i hi
      obtain ⟨r, _, _, _, _, _, h6⟩ := hopc i o ho
      rw [hk5] at h6
      cases h6
  · simp [Ti, ← hlen']
  · simp [Hi, ← hlen']

theorem stepD_sound (hZ : TOk Z p) {C : Calls3} (hC : COk p C) : DOk Z p C := by
  intro r nt n id ops s s' ex e w a hnt hS hok h
  obtain ⟨rfl, hds, A, W, T, Hs, Kd, lvo, hi, lo, R, hT0, hH0, hTk, hHk⟩ := stepD_ref (G := p.G) hnt hok h
  refine wpIn_region_any hZ.mixed ?_
  have h0 : Rel p e (Hs 0) { w with drawn := w.drawn + 1 } := by rw [hH0]; exact hS.rel.drew
  have hrep : ∀ m, (Array.replicate ops.size false).getD m false = false := by
    intro m
    by_cases hm : m < ops.size <;> simp [Array.getD, hm]
  have hinit : Inv p W T Hs Kd lvo ops.size nt e { w with drawn := w.drawn + 1 } a.defers (fun m => (Array.replicate ops.size false).getD m false) 0 e a { w with drawn := w.drawn + 1 } := by
    refine ⟨Nat.zero_le _, fun m hm => by omega, .refl h0, hS.tmps.1, rfl, ?_, ?_, ?_⟩
    · intro t v hv
      have hcur : s.T.get t = some v := by
        rw [← hT0, ← hv]
        unfold cur
        cases W.get t with
        | none => rfl
        | some q => simp only [hrep]; rfl
      refine ⟨hS.tmps.2 t v hcur, (hS.tund t v hcur).mono ?_⟩
      intro b hb
      have h1 : b < (Hs 0).next := by rw [hH0]; exact hb.1
      have h2 : tl W lvo (fun m => (Array.replicate ops.size false).getD m false) t = 0 := by
        unfold tl
        cases W.get t with
        | none => rfl
        | some q => simp only [hrep]; rfl
      rw [h2]
      exact ⟨h1, .inl h1⟩
    · intro m _ _ _ hL
      simp only [hrep] at hL; cases hL
    · intro m m' _ _ _ hL
      simp only [hrep] at hL; cases hL
  refine R.explore hZ hC hnt h0 ?_ ops.size (Array.replicate ops.size false) 0 e a _ (by simp) ?_ (fun m _ hL => by rw [hrep] at hL; cases hL) hinit
  · intro L j e1 a1 w1 hall hinv
    obtain ⟨j', _, hj', _, hinv'⟩ := R.promoteTo h0.siz ops.size (Nat.le_refl _) (fun m hm _ => hall m hm) hinv
    have : j' = ops.size := by have := hinv'.jk; omega
    subst this
    have hcur : ∀ t, cur W T ops.size L t = s'.T.get t := by
      intro t
      rw [← hTk]
      unfold cur
      cases hW : W.get t with
      | none => exact (R.T_none hnt hW ops.size (Nat.le_refl _)).symm
      | some q =>
        obtain ⟨o, ho, _⟩ := R.wr' t q hW
        simp only
        rw [if_pos (hall q (Array.getElem?_eq_some_iff.1 ho).1)]
    have hstep := hinv'.step
    rw [hHk, hH0] at hstep
    have hst : Step p e s.h w e1 s'.h w1 := (Step.drew hS.rel).trans hstep
    have hgh := R.gh ops.size (Nat.le_refl _)
    rw [hHk] at hgh
    refine ⟨e1, hst, ⟨hst.rel, ⟨hinv'.size, ?_⟩, ?_, ?_, ?_⟩, rfl⟩
    · intro t v hv
      exact (hinv'.val t v (by rw [hcur]; exact hv)).1
    · intro t v hv
      refine (hinv'.val t v (by rw [hcur]; exact hv)).2.mono ?_
      rintro b ⟨_, h2⟩
      rcases h2 with h2 | ⟨m, h3, h4, _⟩
      · rw [hHk] at h2
        exact ⟨h2, by rw [hgh]; simp⟩
      · omega
    · rw [hinv'.dfs, hds, hS.defs]
      exact dmap_eq hS.dund hst.agree
    · intro d hd
      rw [hds] at hd
      exact (hS.dund d hd).mono hst.sub
  · simp [List.count_replicate]

/-- **All calls.** -/
theorem calls_ok (hZ : TOk Z p) {fuel : Nat} (k : Nat) : COk p (calls Z fuel k) := calls_sound hZ (fun _ hC => stepD_sound hZ hC) k
end Go.Eng
