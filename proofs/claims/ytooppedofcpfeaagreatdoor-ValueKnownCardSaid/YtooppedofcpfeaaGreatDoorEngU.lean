/- A region that draws its order: where it may be, in whatever order. -/
import Derived.Test.YtooppedofcpfeaaGreatDoorEngT
set_option linter.all false
namespace Go.Eng
variable [Shift]
variable {p : Par} {e e' e'' : Env} {H H' : Heap} {w w' w'' : World} {Z : Tab}

/-- Numbers of blocks that are there: those ahead of operation j, and those of rows that were made early; of all, those that have a number ahead of operation x's. -/
def DL (Hs : Nat → Heap) (Kd : Nat → Nat) (k : Nat) (L : Nat → Bool) (j x b : Nat) : Prop :=
  b < (Hs x).next ∧ (b < (Hs j).next ∨ ∃ m, j ≤ m ∧ m < k ∧ isEff (Kd m) = true ∧ L m = true ∧ b = (Hs m).next)
def cur (W : Tr Nat) (T : Nat → Tr Value) (k : Nat) (L : Nat → Bool) (t : Nat) : Option Value :=
  match W.get t with | some i => if L i = true then (T k).get t else (T 0).get t | none => (T 0).get t
def tl (W : Tr Nat) (lvo : Nat → Nat) (L : Nat → Bool) (t : Nat) : Nat :=
  match W.get t with | some i => if L i = true then lvo i else 0 | none => 0
def upd (L : Nat → Bool) (i : Nat) : Nat → Bool := fun m => if m = i then true else L m

/-- A row that was made early. -/
def Pend (p : Par) (Hs : Nat → Heap) (Kd : Nat → Nat) (k : Nat) (L : Nat → Bool) (j : Nat) (s0 : Nat) (e : Env) (w : World) (m : Nat) : Prop :=
  Kd m = 2 ∧ ∃ o r, Hs (m + 1) = (Hs m).new o ∧ w.heap[e.ρ (Hs m).next]? = some r ∧ ORel p e (Hs m).next o r ∧ OUnd p (DL Hs Kd k L j (m + 1)) o ∧ s0 ≤ e.ρ (Hs m).next ∧ ¬ Own p e (Hs j) (e.ρ (Hs m).next)

structure Inv (p : Par) (W : Tr Nat) (T : Nat → Tr Value) (Hs : Nat → Heap) (Kd lvo : Nat → Nat) (k nt : Nat) (e0 : Env) (w0 : World) (ds : List Deferred) (L : Nat → Bool) (j : Nat) (e : Env) (a : Act) (w : World) : Prop where
  jk : j ≤ k
  lead : ∀ m, m < j → isEff (Kd m) = true → L m = true
  step : Step p e0 (Hs 0) w0 e (Hs j) w
  size : a.tmps.size = nt
  dfs : a.defers = ds
  val : ∀ t v, cur W T k L t = some v → a.tmps[t]? = some (ren e v) ∧ Und (DL Hs Kd k L j (tl W lvo L t)) v
  pend : ∀ m, j ≤ m → m < k → isEff (Kd m) = true → L m = true → Pend p Hs Kd k L j w0.heap.size e w m
  pinj : ∀ m m', j ≤ m → m < k → isEff (Kd m) = true → L m = true → j ≤ m' → m' < k → isEff (Kd m') = true → L m' = true → e.ρ (Hs m).next = e.ρ (Hs m').next → m = m'

section
variable {C : Calls3} {nt : Nat} {ops : Array Oper} {A W : Tr Nat} {T : Nat → Tr Value} {Hs : Nat → Heap} {Kd lvo hi lo : Nat → Nat}
variable {e0 : Env} {w0 : World} {ds : List Deferred} {L : Nat → Bool} {j : Nat} {a : Act}
variable (R : Ref Z p.G C nt ops A W T Hs Kd lvo hi lo)
include R

theorem Ref.H_new {m : Nat} (hm : m < ops.size) (hk : Kd m = 2) : (Hs m).next < (Hs (m + 1)).next := by
  obtain ⟨o, ho⟩ := R.get hm
  obtain ⟨b, hb, hk', hf0, hf1⟩ := R.fact m o ho
  cases b with
  | false => rw [hk] at hk'; cases hk'
  | true =>
    obtain ⟨out, hd, hof⟩ := hf1 rfl
    obtain ⟨⟨v, cells, el, rfl⟩, _⟩ := bs_indep (hk'.symm.trans hk) hd rfl
    rw [hof.2]
    show (Hs m).next < (Hs m).next + 1
    omega

/-- One operation further. -/
theorem Ref.promote (hB : p.B ≤ w0.heap.size) (h : Inv p W T Hs Kd lvo ops.size nt e0 w0 ds L j e a w) (hj : j < ops.size) (hL : isEff (Kd j) = true → L j = true) :
    Inv p W T Hs Kd lvo ops.size nt e0 w0 ds L (j + 1) e a w := by
  have hle := R.mono j hj
  have hDL : ∀ x b, DL Hs Kd ops.size L j x b → DL Hs Kd ops.size L (j + 1) x b := by
    rintro x b ⟨h1, h2⟩
    refine ⟨h1, ?_⟩
    rcases h2 with h2 | ⟨m, h3, h4, h5, h6, rfl⟩
    · exact .inl (by omega)
    · by_cases hm : m = j
      · subst hm
        obtain ⟨hk2, _⟩ := h.pend m (Nat.le_refl _) h4 h5 h6
        exact .inl (R.H_new h4 hk2)
      · exact .inr ⟨m, by omega, h4, h5, h6, rfl⟩
  have hstep : Step p e0 (Hs 0) w0 e (Hs (j + 1)) w ∧ ∀ r, Own p e (Hs (j + 1)) r → Own p e (Hs j) r ∨ (isEff (Kd j) = true ∧ r = e.ρ (Hs j).next) := by
    cases he : isEff (Kd j) with
    | false => rw [R.H_light hj he]; exact ⟨h.step, fun r hr => .inl hr⟩
    | true =>
      obtain ⟨hk2, o, r, hn, hr, ho, hu, hf, hno⟩ := h.pend j (Nat.le_refl _) hj he (hL he)
      have hgh := R.gh j (by omega)
      have hsm := R.small j (by omega)
      rw [hn]
      refine ⟨Step.promote hB h.step hr ho (hu.mono ?_) hf hno (by omega), ?_⟩
      · rintro b ⟨h1, _⟩
        rw [hn] at h1
        exact ⟨h1, by show b ∉ (Hs j).ghost; rw [hgh]; simp⟩
      · rintro r' ⟨b, o', hb, hn', rfl⟩
        rw [Heap.get_new _ _ _ (by omega)] at hb
        split at hb
        · rename_i hbn; exact .inr ⟨rfl, by rw [hbn]⟩
        · exact .inl ⟨b, o', hb, hn', rfl⟩
  refine ⟨by omega, ?_, hstep.1, h.size, h.dfs, ?_, ?_, ?_⟩
  · intro m hm hem
    by_cases hmj : m = j
    · subst hmj; exact hL hem
    · exact h.lead m (by omega) hem
  · intro t v hv
    obtain ⟨h1, h2⟩ := h.val t v hv
    exact ⟨h1, h2.mono (hDL _)⟩
  · intro m hm hmk hem hLm
    obtain ⟨h1, o, r, h2, h3, h4, h5, h6, h7⟩ := h.pend m (by omega) hmk hem hLm
    refine ⟨h1, o, r, h2, h3, h4, h5.mono (hDL _), h6, fun hown => ?_⟩
    rcases hstep.2 _ hown with h8 | ⟨h8, h9⟩
    · exact h7 h8
    · have := h.pinj m j (by omega) hmk hem hLm (Nat.le_refl _) hj h8 (hL h8) h9
      omega
  · intro m m' h1 h2 h3 h4 h5 h6 h7 h8 h9
    exact h.pinj m m' (by omega) h2 h3 h4 (by omega) h6 h7 h8 h9

theorem Ref.promoteTo (hB : p.B ≤ w0.heap.size) (x : Nat) (hx : x ≤ ops.size) (hL : ∀ m, m < x → isEff (Kd m) = true → L m = true) (h : Inv p W T Hs Kd lvo ops.size nt e0 w0 ds L j e a w) :
    ∃ j', j ≤ j' ∧ x ≤ j' ∧ (j' = x ∨ j' = j) ∧ Inv p W T Hs Kd lvo ops.size nt e0 w0 ds L j' e a w := by
  by_cases hjx : x ≤ j
  · exact ⟨j, Nat.le_refl _, hjx, .inr rfl, h⟩
  · obtain ⟨d, hd⟩ : ∃ d, x = j + d := ⟨x - j, by omega⟩
    subst hd
    suffices ∀ d', d' ≤ d → Inv p W T Hs Kd lvo ops.size nt e0 w0 ds L (j + d') e a w from ⟨j + d, by omega, Nat.le_refl _, .inl rfl, this d (Nat.le_refl _)⟩
    intro d'
    induction d' with
    | zero => intro _; exact h
    | succ d' ih =>
      intro hd'
      have h1 : j + d' < ops.size := by omega
      exact R.promote hB (ih (by omega)) h1 (hL (j + d') (by omega))

/-- What an operation sees of a temporary. -/
theorem Ref.see (hnt : nt ≤ 2 ^ 30) {i : Nat} (hi' : i < ops.size) (hLi : L i = false) (hcl : ∀ m, m < ops.size → L m = true → ∀ q, bitA A m q = true → L q = true) (hanc : ∀ q, bitA A i q = true → L q = true)
    {t : Nat} (hc : ∀ q, W.get t = some q → (q < i → bitA A i q = true) ∧ (i < q → bitA A q i = true)) : cur W T ops.size L t = (T i).get t := by
  unfold cur
  cases hW : W.get t with
  | none => exact (R.T_none hnt hW i (by omega)).symm
  | some q =>
    obtain ⟨o', ho', _⟩ := R.wr' t q hW
    have hq : q < ops.size := (Array.getElem?_eq_some_iff.1 ho').1
    simp only
    by_cases hqi : q < i
    · rw [if_pos (hanc q ((hc q hW).1 hqi))]
      exact R.T_behind hnt hW i ops.size hqi (by omega) (Nat.le_refl _)
    · have : L q ≠ true := by
        intro hLq
        by_cases hqe : q = i
        · subst hqe; rw [hLi] at hLq; cases hLq
        · have := hcl q hq hLq i ((hc q hW).2 (by omega))
          rw [hLi] at this; cases this
      rw [if_neg this]
      exact (R.T_ahead hnt hW i (by omega) (by omega)).symm

theorem Ref.lp_le (i : Nat) (hi' : i < ops.size) : cond (isEff (Kd i)) i (hi i) ≤ ops.size := by
  cases isEff (Kd i) with
  | true => exact Nat.le_of_lt hi'
  | false => exact (R.hiE i).1

/-- What an operation sees. -/
theorem Ref.erel (hnt : nt ≤ 2 ^ 30) (h0 : Rel p e0 (Hs 0) w0) (h : Inv p W T Hs Kd lvo ops.size nt e0 w0 ds L j e a w) {i : Nat} {o : Oper} (ho : ops[i]? = some o) (hLi : L i = false)
    (hcl : ∀ m, m < ops.size → L m = true → ∀ q, bitA A m q = true → L q = true) (hanc : ∀ q, bitA A i q = true → L q = true) :
    ERel (fun x => operandOk p.G x && @decide (x ∈ o.op.operands.toList) (Classical.propDecidable _)) e (DL Hs Kd ops.size L j (cond (isEff (Kd i)) i (hi i))) (ev (T i)) a.eval := by
  have hi' : i < ops.size := (Array.getElem?_eq_some_iff.1 ho).1
  intro x hx hk
  simp only [Bool.and_eq_true, decide_eq_true_eq] at hx
  obtain ⟨hxo, hxm⟩ := hx
  cases x with
  | tmp t =>
    simp only [ev] at hk ⊢
    have hchk := R.chkO i o ho _ hxm t rfl
    cases ht : (T i).get t with
    | none => rw [ht] at hk; simp [unknown, known] at hk
    | some v =>
      simp only [Option.getD_some]
      have hcur := R.see hnt hi' hLi hcl hanc (t := t) fun q hq => ⟨fun hqi => ((hchk q hq).1 hqi).1, (hchk q hq).2⟩
      obtain ⟨h1, h2⟩ := h.val t v (by rw [hcur]; exact ht)
      refine ⟨by simp [Act.eval, h1], h2.mono ?_⟩
      rintro b ⟨hb1, hb2⟩
      refine ⟨Nat.lt_of_lt_of_le hb1 (R.next_le ?_ (R.lp_le i hi')), hb2⟩
      unfold tl
      cases hW : W.get t with
      | none => exact Nat.zero_le _
      | some q =>
        simp only
        split
        · rename_i hLq
          by_cases hqi : q < i
          · exact ((hchk q hW).1 hqi).2
          · exfalso
            by_cases hqe : q = i
            · subst hqe; rw [hLi] at hLq; cases hLq
            · obtain ⟨o', ho', _⟩ := R.wr' t q hW
              have := hcl q (Array.getElem?_eq_some_iff.1 ho').1 hLq i ((hchk q hW).2 (by omega))
              rw [hLi] at this; cases this
        · exact Nat.zero_le _
  | const v =>
    simp only [operandOk] at hxo
    exact ⟨by simp only [Act.eval, ev]; rw [ren_plain 3 v hxo], und_plain hxo⟩
  | global g =>
    simp only [operandOk, Nat.blt_eq] at hxo
    have h1 := h.step.rel.glo g hxo
    have h2 := h0.gn
    have h3 := h0.nxt
    have h4 := R.next_le (Nat.zero_le j) h.jk
    have h5 := R.next_le (Nat.zero_le _) (R.lp_le i hi')
    exact ⟨by simp [Act.eval, ev, Env.addr, h1.1, h.step.rel.shiftG hxo], und_ptr ⟨by simp; omega, .inl (by simp; omega)⟩⟩
  | func f => exact ⟨by simp [Act.eval, ev, renFn], und_func (fun _ _ _ => rfl) (by simp) (by simp)⟩

/-- The world behind an operation, and what it has written. -/
theorem Ref.after (hnt : nt ≤ 2 ^ 30) (h : Inv p W T Hs Kd lvo ops.size nt e0 w0 ds L j e a w) {i : Nat} {o : Oper} (ho : ops[i]? = some o) {j1 : Nat} (hj1 : j ≤ j1) (hjk : j1 ≤ ops.size) {e1 : Env} {w1 : World} {v : Value}
    (hst : Step p e0 (Hs 0) w0 e1 (Hs j1) w1) (hlead : ∀ m, m < j1 → isEff (Kd m) = true → upd L i m = true)
    (hag : ∀ x b, DL Hs Kd ops.size L j x b → e.ρ b = e1.ρ b ∧ e.σ b = e1.σ b) (hres : ∀ d, o.dst = some d → (T (i + 1)).get d = some v) (hu : Und (DL Hs Kd ops.size (upd L i) j1 (lvo i)) v)
    (hpend : ∀ m, j1 ≤ m → m < ops.size → isEff (Kd m) = true → upd L i m = true → Pend p Hs Kd ops.size (upd L i) j1 w0.heap.size e1 w1 m)
    (hpinj : ∀ m m', j1 ≤ m → m < ops.size → isEff (Kd m) = true → upd L i m = true → j1 ≤ m' → m' < ops.size → isEff (Kd m') = true → upd L i m' = true → e1.ρ (Hs m).next = e1.ρ (Hs m').next → m = m') :
    Inv p W T Hs Kd lvo ops.size nt e0 w0 ds (upd L i) j1 e1 (a.put o.dst (ren e1 v)) w1 := by
  have hi' : i < ops.size := (Array.getElem?_eq_some_iff.1 ho).1
  have hok := R.ok i o ho
  refine ⟨hjk, hlead, hst, ?_, ?_, ?_, hpend, hpinj⟩
  · cases hd : o.dst with
    | none => exact h.size
    | some d => simp [Act.put, h.size]
  · cases hd : o.dst with
    | none => exact h.dfs
    | some d => exact h.dfs
  · intro t u hcu
    by_cases htd : o.dst = some t
    · have hW := R.wr i o t ho htd
      simp only [cur, hW, upd, if_true] at hcu
      rw [R.T_behind hnt hW (i + 1) ops.size (by omega) (by omega) (Nat.le_refl _), hres t htd] at hcu
      cases hcu
      have htn : t < nt := by
        simp only [opOk, htd, Bool.and_eq_true] at hok
        exact Nat.blt_eq.mp hok.1
      refine ⟨?_, ?_⟩
      · rw [htd]
        have htn' : t < a.tmps.size := by rw [h.size]; exact htn
        simp [Act.put, htn']
      · simp only [tl, hW, upd, if_true]
        exact hu
    · have hWi : W.get t ≠ some i := by
        intro hW
        obtain ⟨o', ho', hd'⟩ := R.wr' t i hW
        rw [ho] at ho'
        cases ho'
        exact htd hd'
      have hcu' : cur W T ops.size L t = some u := by
        rw [← hcu]
        unfold cur
        cases hW : W.get t with
        | none => rfl
        | some q =>
          have : q ≠ i := fun hq => hWi (by rw [hW, hq])
          simp [upd, this]
      have htl : tl W lvo (upd L i) t = tl W lvo L t := by
        unfold tl
        cases hW : W.get t with
        | none => rfl
        | some q =>
          have : q ≠ i := fun hq => hWi (by rw [hW, hq])
          simp [upd, this]
      obtain ⟨h1, h2⟩ := h.val t u hcu'
      refine ⟨?_, ?_⟩
      · have : (a.put o.dst (ren e1 v)).tmps[t]? = a.tmps[t]? := by
          cases hd : o.dst with
          | none => rfl
          | some d =>
            have : d ≠ t := fun hdt => htd (by rw [hd, hdt])
            simp only [Act.put]
            rw [Array.getElem?_setIfInBounds_ne this]
        rw [this, h1, h2 e e1 (hag _)]
      · rw [htl]
        refine h2.mono ?_
        rintro b ⟨hb1, hb2⟩
        refine ⟨hb1, ?_⟩
        rcases hb2 with hb2 | ⟨m, h3, h4, h5, h6, rfl⟩
        · exact .inl (Nat.lt_of_lt_of_le hb2 (R.next_le hj1 hjk))
        · by_cases hm : m < j1
          · obtain ⟨hk2, _⟩ := h.pend m h3 h4 h5 h6
            exact .inl (Nat.lt_of_lt_of_le (R.H_new h4 hk2) (R.next_le (by omega) hjk))
          · exact .inr ⟨m, by omega, h4, h5, by simp only [upd]; split <;> first | rfl | exact h6, rfl⟩
end
end Go.Eng
