/- A region that draws its order: all orders. -/
import Derived.Test.YtooppedofcpfeaaGreatDoorEngV
set_option linter.all false
namespace Go.Eng
variable [Shift]
variable {p : Par} {e e' e'' : Env} {H H' : Heap} {w w' w'' : World} {Z : Tab}

section
variable {C : Calls3} {nt : Nat} {ops : Array Oper} {A W : Tr Nat} {T : Nat → Tr Value} {Hs : Nat → Heap} {Kd lvo hi lo : Nat → Nat}
variable {e0 : Env} {w0 : World} {ds : List Deferred} {L : Nat → Bool} {j : Nat} {a : Act}
variable (R : Ref Z p.G C nt ops A W T Hs Kd lvo hi lo)
include R

theorem Ref.effectAfter (hnt : nt ≤ 2 ^ 30) {i : Nat} (h : Inv p W T Hs Kd lvo ops.size nt e0 w0 ds L i e a w) {o : Oper} (ho : ops[i]? = some o) (hk3 : isEff (Kd i) = true) (hLi : L i = false)
    {e1 : Env} {w1 : World} {v : Value} (hst : Step p e (Hs i) w e1 (Hs (i + 1)) w1) (hres : ∀ d, o.dst = some d → (T (i + 1)).get d = some v) (hu : Und (Hs (i + 1)).D v) :
    ∃ e2, ren e2 v = ren e1 v ∧ Inv p W T Hs Kd lvo ops.size nt e0 w0 ds (upd L i) (i + 1) e2 (a.put o.dst (ren e2 v)) w1 := by
  have hi' : i < ops.size := (Array.getElem?_eq_some_iff.1 ho).1
  have hle := R.mono i hi'
  have hgh := R.gh i (Nat.le_of_lt hi')
  let e2 : Env := ⟨fun b => if b < (Hs (i + 1)).next then e1.ρ b else e.ρ b, fun b => if b < (Hs (i + 1)).next then e1.σ b else e.σ b⟩
  have hmi : ∀ m, i ≤ m → L m = true → i + 1 ≤ m := by
    intro m hm hL
    have : m ≠ i := fun hx => by subst hx; rw [hLi] at hL; cases hL
    omega
  have hag : ∀ x b, DL Hs Kd ops.size L i x b → e.ρ b = e2.ρ b ∧ e.σ b = e2.σ b := by
    rintro x b ⟨_, h2⟩
    rcases h2 with h2 | ⟨m, h3, h4, h5, h6, rfl⟩
    · have := hst.agree b ⟨h2, by rw [hgh]; simp⟩
      have hb : b < (Hs (i + 1)).next := by omega
      simp [e2, hb, this.1, this.2]
    · have := R.next_le (hmi m h3 h6) (Nat.le_of_lt h4)
      have hb : ¬ (Hs m).next < (Hs (i + 1)).next := by omega
      simp [e2, hb]
  have hag1 : Agree (Hs (i + 1)).D e1 e2 := fun b hb => by
    have : b < (Hs (i + 1)).next := hb.1
    simp [e2, this]
  have hmono : ∀ x b, DL Hs Kd ops.size L i x b → DL Hs Kd ops.size (upd L i) (i + 1) x b := by
    rintro x b ⟨h1, h2⟩
    refine ⟨h1, ?_⟩
    rcases h2 with h2 | ⟨m, h3, h4, h5, h6, rfl⟩
    · exact .inl (by omega)
    · exact .inr ⟨m, hmi m h3 h6, h4, h5, by simp only [upd]; split <;> first | rfl | exact h6, rfl⟩
  have hLm : ∀ m, i + 1 ≤ m → upd L i m = true → L m = true := by
    intro m hm hL
    have : m ≠ i := by omega
    simpa [upd, this] using hL
  have hstep := (h.step.trans hst).congr hag1
  have hpe : ∀ m, i + 1 ≤ m → m < ops.size → isEff (Kd m) = true → upd L i m = true → e2.ρ (Hs m).next = e.ρ (Hs m).next := by
    intro m hm hmk hem hL
    obtain ⟨h1, _⟩ := h.pend m (by omega) hmk hem (hLm m hm hL)
    exact ((hag (m + 1) _ ⟨R.H_new hmk h1, .inr ⟨m, by omega, hmk, hem, hLm m hm hL, rfl⟩⟩).1).symm
  refine ⟨e2, (hu.eq hag1).symm, R.after hnt h ho (by omega) (by omega) hstep ?_ hag hres ?_ ?_ ?_⟩
  · intro m hm hem
    by_cases hx : m = i
    · simp [upd, hx]
    · have := h.lead m (by omega) hem
      simp [upd, hx, this]
  · have := R.lvE i hi'
    rw [hk3] at this
    rw [show lvo i = i + 1 from this]
    exact hu.mono fun b hb => ⟨hb.1, .inl hb.1⟩
  · intro m hm hmk hem hL
    obtain ⟨h1, o', r', h2, h3, h4, h5, h6, h7⟩ := h.pend m (by omega) hmk hem (hLm m hm hL)
    have hρm := hpe m hm hmk hem hL
    have hin := (Array.getElem?_eq_some_iff.1 h3).1
    refine ⟨h1, o', r', h2, ?_, ?_, h5.mono (hmono _), by rw [hρm]; exact h6, ?_⟩
    · rw [hρm, hst.keep _ hin h7]; exact h3
    · exact h4.agree (n := DL Hs Kd ops.size L i (m + 1)) h5 ⟨R.H_new hmk h1, .inr ⟨m, by omega, hmk, hem, hLm m hm hL, rfl⟩⟩ fun b hb => hag _ b hb
    · rw [hρm]
      intro hown
      rcases hst.own _ (Own.congr hst.rel hag1 hown) with hx | hx
      · exact h7 hx
      · omega
  · intro m m' h1 h2 h3 h4 h5 h6 h7 h8 h9
    rw [hpe m h1 h2 h3 h4, hpe m' h5 h6 h7 h8] at h9
    exact h.pinj m m' (by omega) h2 h3 (hLm m h1 h4) (by omega) h6 h7 (hLm m' h5 h8) h9

theorem Ref.opStep (hZ : TOk Z p) (hC : COk p C) (hnt : nt ≤ 2 ^ 30) (h0 : Rel p e0 (Hs 0) w0) (h : Inv p W T Hs Kd lvo ops.size nt e0 w0 ds L j e a w) {i : Nat} (hi' : i < ops.size) (hLi : L i = false)
    (hcl : ∀ m, m < ops.size → L m = true → ∀ q, bitA A m q = true → L q = true) (hanc : ∀ q, bitA A i q = true → L q = true) {r : Option Nat} {n : Nat} {Q : Exit → Act → World → Prop} {K : Act → World → Prop}
    (hK : ∀ j1 e1 a1 w1, Inv p W T Hs Kd lvo ops.size nt e0 w0 ds (upd L i) j1 e1 a1 w1 → K a1 w1) : wpOpIn (FR r) n p.P ops Q i K a w := by
  obtain ⟨o, ho⟩ := R.get hi'
  obtain ⟨b, hb, hk, hf0, hf1⟩ := R.fact i o ho
  have hB := h0.siz
  have hw : Region.wanted o (yielded ops a.tmps) = b := by
    refine wantedA_sound2 (e := e) ?_ hb
    intro g c d hg hd v hv
    have hcur := R.see hnt hi' hLi hcl hanc (t := d) (R.chkG i o ho g c d hg hd)
    exact (h.val d v (by rw [hcur]; exact hv)).1
  unfold wpOpIn
  simp only [ho, hw]
  cases b with
  | false =>
    simp only [Bool.false_eq_true, if_false]
    refine ⟨about_none, ?_⟩
    have he : isEff (Kd i) = false := by rw [hk]; rfl
    have := R.lightAfter hnt h ho he (w1 := w) (v := undef) (fun _ _ => rfl) (Nat.le_refl _) rfl rfl rfl (R.resOf ho hnt (hf0 rfl).1) und_undef
    rw [ren_undef] at this
    exact hK _ _ _ _ this
  | true =>
    simp only [if_true]
    obtain ⟨out, hd, hof⟩ := hf1 rfl
    simp only [cond] at hk
    have h5 := R.no5 i hi'
    have hsem : o.semAt r a.eval = execOp a.eval o := by
      cases r with
      | none => rfl
      | some l => exact Oper.semAt_eq (some l) _ o fun c hc => h5 (by rw [hk, hc]; rfl)
    have hsm := R.small i (Nat.le_of_lt hi')
    have hopn : ∀ x ∈ o.op.operands.toList, (operandOk p.G x && @decide (x ∈ o.op.operands.toList) (Classical.propDecidable _)) = true := by
      intro x hx
      have hok := R.ok i o ho
      simp only [opOk, Bool.and_eq_true, List.all_eq_true] at hok
      simp only [Bool.and_eq_true, decide_eq_true_eq]
      exact ⟨hok.2 x hx, hx⟩
    refine ⟨about_none, ?_⟩
    rw [show (FR r).round = r from rfl, hsem]
    have hkc := kindOf_cases o.op
    rw [← hk] at hkc
    have hempty : ∀ x r, ¬ Own p e (bareH Hs Kd ops.size L j x) r := by
      rintro x r ⟨b, o', hb, _⟩
      simp [bareH, Heap.get, Tr.get] at hb
    rcases hkc with hk0 | hk1 | hk2 | hk3 | hk5
    · -- memory plays no part
      have he : isEff (Kd i) = false := by rw [hk0]; rfl
      obtain ⟨⟨v, rfl⟩, hdi⟩ := light_same (hk.symm.trans hk0) hd
      have hE := R.erel hnt h0 h ho hLi hcl hanc
      rw [he] at hE
      have hx := (R.hiE i).1
      have hsm2 := R.small _ hx
      have hE' : ERel (fun x => operandOk p.G x && @decide (x ∈ o.op.operands.toList) (Classical.propDecidable _)) e (bareH Hs Kd ops.size L j (hi i)).D (ev (T i)) a.eval := by rw [bareH_D]; exact hE
      have hs := doOp_sound hZ (R.bareRel h0 h hx) (by show (Hs (hi i)).next + 2 < 2 ^ 40; omega) hE' hopn (hdi _)
      obtain ⟨e1, w1, hrun, hstep, hu⟩ := hs
      have hu' : Und (DL Hs Kd ops.size L j (hi i)) v := by
        have hu2 : Und (bareH Hs Kd ops.size L j (hi i)).D v := hu
        rw [bareH_D] at hu2; exact hu2
      have hren : ren e1 v = ren e v := (Und.eq (show Und (bareH Hs Kd ops.size L j (hi i)).D v from hu) hstep.agree).symm
      have hinv := R.lightAfter hnt h ho he (w1 := w1) (v := v) (fun r hr => hstep.keep r hr (hempty _ r)) hstep.size hstep.tape hstep.os hstep.output (R.resOf ho hnt hof.1) hu'
      rcases hrun with hrun | ⟨hrun, rfl⟩
      · rw [hrun]
        show K (a.put o.dst (ren e1 v)) w1
        rw [hren]
        exact hK _ _ _ _ hinv
      · rw [hrun]
        show K (a.put o.dst undef) w1
        rw [ren_undef] at hinv
        exact hK _ _ _ _ hinv
    · -- a load
      have he : isEff (Kd i) = false := by rw [hk1]; rfl
      obtain ⟨t, x, ad, v, hop, hx, hl, hwin⟩ := R.ld i o ho hk1
      obtain ⟨hlo1, hlo2⟩ := R.loE i
      obtain ⟨j', hjj, hlj, _, h'⟩ := R.promoteTo hB (lo i) hlo1 (fun m hm hem => hanc m (hlo2 m hm hem)) h
      have hjhi : j' ≤ hi i := by
        by_cases hc : j' ≤ hi i
        · exact hc
        · exfalso
          obtain ⟨hh1, hh2⟩ := R.hiE i
          have hjk := h'.jk
          obtain ⟨hh3, hh4⟩ := hh2 (by omega)
          have := hcl (hi i) (by omega) (h'.lead (hi i) (by omega) hh3) i hh4
          rw [hLi] at this; cases this
      obtain ⟨hrun, huv⟩ := loadV_sound hZ h'.step.rel (hwin j' hlj hjhi)
      have hE := R.erel hnt h0 h' ho hLi hcl hanc
      obtain ⟨hev, _⟩ := hE x (hopn x (by rw [hop]; simp [Op.operands])) (by rw [hx]; rfl)
      rw [hx, ren_ptr] at hev
      have hrun' : (execOp a.eval o).run p.P w = .ok (.value (ren e v)) w := by
        unfold execOp
        simp only [hop, hev]
        simp [Instr.loadAt, Instr.sureAddr, hrun]
      rw [hrun']
      have hof' := hof
      unfold doOp at hd
      simp only [hop, hx, hl, Option.map_some] at hd
      cases hd
      refine hK _ _ _ _ (R.lightAfter hnt h' ho he (w1 := w) (v := v) (fun _ _ => rfl) (Nat.le_refl _) rfl rfl rfl (R.resOf ho hnt hof.1) (huv.mono ?_))
      intro b hb
      exact ⟨Nat.lt_of_lt_of_le hb.1 (R.next_le hjhi (R.hiE i).1), .inl hb.1⟩
    · -- a new row
      obtain ⟨⟨v, cells, el, rfl⟩, hdi⟩ := bs_indep (h' := bareH Hs Kd ops.size L j i) (hk.symm.trans hk2) hd rfl
      have hE := R.erel hnt h0 h ho hLi hcl hanc
      rw [show isEff (Kd i) = true from by rw [hk2]; rfl] at hE
      have hE' : ERel (fun x => operandOk p.G x && @decide (x ∈ o.op.operands.toList) (Classical.propDecidable _)) e (bareH Hs Kd ops.size L j i).D (ev (T i)) a.eval := by rw [bareH_D]; exact hE
      have hs := doOp_sound hZ (R.bareRel h0 h (Nat.le_of_lt hi')) (by show (Hs i).next + 2 < 2 ^ 40; omega) hE' hopn hdi
      obtain ⟨e1, w1, hrun, hstep, hu⟩ := hs
      obtain ⟨e2, hren, hinv⟩ := R.rowAfter hnt h0 h ho hk2 hLi hof.2 hstep (R.resOf ho hnt hof.1) hu
      rcases hrun with hrun | ⟨hrun, rfl⟩
      · rw [hrun]
        show K (a.put o.dst (ren e1 v)) w1
        rw [← hren]
        exact hK _ _ _ _ hinv
      · rw [hrun]
        show K (a.put o.dst undef) w1
        rw [ren_undef] at hinv
        exact hK _ _ _ _ hinv
    · -- all else: all ahead of it is done
      have he : isEff (Kd i) = true := by rw [hk3]; rfl
      have hlo := R.ef i hi' hk3
      obtain ⟨hlo1, hlo2⟩ := R.loE i
      obtain ⟨j', hjj, hij, hor, h'⟩ := R.promoteTo hB i (Nat.le_of_lt hi') (fun m hm hem => hanc m (hlo2 m (by omega) hem)) h
      have hji : j' = i := by
        by_cases hx : j' = i
        · exact hx
        · have := h'.lead i (by omega) he
          rw [hLi] at this; cases this
      subst hji
      have hE := R.erel hnt h0 h' ho hLi hcl hanc
      rw [he] at hE
      have hgh := R.gh j' (Nat.le_of_lt hi')
      have hDD : DL Hs Kd ops.size L j' j' = (Hs j').D := by
        funext b
        apply propext
        exact ⟨fun hb => ⟨hb.1, by rw [hgh]; simp⟩, fun hb => ⟨hb.1, .inl hb.1⟩⟩
      have hE' : ERel (fun x => operandOk p.G x && @decide (x ∈ o.op.operands.toList) (Classical.propDecidable _)) e (Hs j').D (ev (T j')) a.eval := by rw [← hDD]; exact hE
      have hs := doOp_sound hZ h'.step.rel (by omega) hE' hopn hd
      cases out with
      | val v d =>
        obtain ⟨e1, w1, hrun, hstep, hu⟩ := hs
        rw [← hof.2] at hstep hu
        obtain ⟨e2, hren, hinv⟩ := R.effectAfter hnt h' ho he hLi hstep (R.resOf ho hnt hof.1) hu
        rcases hrun with hrun | ⟨hrun, rfl⟩
        · rw [hrun]
          show K (a.put o.dst (ren e1 v)) w1
          rw [← hren]
          exact hK _ _ _ _ hinv
        · rw [hrun]
          show K (a.put o.dst undef) w1
          rw [ren_undef] at hinv
          exact hK _ _ _ _ hinv
      | enter f args =>
        obtain ⟨hrun, hargs, _⟩ := hs
        obtain ⟨v, hcall, hT⟩ := hof
        rw [hrun]
        refine ⟨fun hd => by simp [FR] at hd, ?_⟩
        refine CallsIn.mono (F := FR none) (hC.fn f args _ _ _ hcall e w (n - 1) h'.step.rel hargs) ?_
        rintro en w1 ⟨e1, hstep, rfl, hu⟩
        obtain ⟨e2, hren, hinv⟩ := R.effectAfter hnt h' ho he hLi hstep (R.resOf ho hnt hT) hu
        show K (a.put o.dst (ren e1 v)) w1
        rw [← hren]
        exact hK _ _ _ _ hinv
      | round l args =>
        obtain ⟨hrun, hargs⟩ := hs
        obtain ⟨v, hcall, hT⟩ := hof
        obtain ⟨f, tmps, assign, body, hy, hround⟩ := hC.rd l args _ _ _ hcall e w (n - 1) h'.step.rel hargs
        rw [hrun, hy]
        refine ⟨fun hd => by simp [FR] at hd, ?_⟩
        refine RoundIn.mono (F := FR none) hround ?_
        rintro en w1 ⟨e1, hstep, rfl, hu⟩
        obtain ⟨e2, hren, hinv⟩ := R.effectAfter hnt h' ho he hLi hstep (R.resOf ho hnt hT) hu
        show K (a.put o.dst (ren e1 v)) w1
        rw [← hren]
        exact hK _ _ _ _ hinv
      | defer d => exact hof.elim
      | recover => exact hof.elim
      | panic v => exact hof.elim
    · exact (h5 hk5).elim
end
end Go.Eng
