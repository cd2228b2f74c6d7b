/- A region that draws its order: each order does the same. -/
import Derived.Test.YtooppedofcpfeaaGreatDoorEngS
set_option linter.all false
namespace Go.Eng
variable [Shift]
variable {p : Par} {e e' e'' : Env} {H H' : Heap} {w w' w'' : World} {Z : Tab}

/-- A region as it is followed in the order of the text: what is there ahead of each operation. -/
structure Ref (Z : Tab) (G : Nat) (C : Calls3) (nt : Nat) (ops : Array Oper) (A W : Tr Nat) (T : Nat → Tr Value) (Hs : Nat → Heap) (Kd lvo hi lo : Nat → Nat) : Prop where
  sz : ops.size < 1000
  fact : ∀ (i : Nat) (o : Oper), ops[i]? = some o → ∃ b, wantedA o ops (T i) = some b ∧ Kd i = cond b (kindOf o.op) 4 ∧ OpFact Z C o b (T i) (Hs i) (T (i + 1)) (Hs (i + 1))
  mono : ∀ i, i < ops.size → (Hs i).next ≤ (Hs (i + 1)).next
  small : ∀ i, i ≤ ops.size → (Hs i).next < 1000000000
  gh : ∀ i, i ≤ ops.size → (Hs i).ghost = []
  bind : ∀ (i : Nat) (o : Oper), ops[i]? = some o → ∀ x ∈ o.after, Region.binds .any x = true → x.on < i
  anc : ∀ (i : Nat) (o : Oper), ops[i]? = some o → ∀ j, bitA A i j = true → ∃ x ∈ o.after, Region.binds .any x = true ∧ (x.on = j ∨ bitA A x.on j = true)
  wr : ∀ (i : Nat) (o : Oper) (d : Tmp), ops[i]? = some o → o.dst = some d → W.get d = some i
  wr' : ∀ (d i : Nat), W.get d = some i → ∃ o : Oper, ops[i]? = some o ∧ o.dst = some d
  ok : ∀ (i : Nat) (o : Oper), ops[i]? = some o → opOk G nt o = true
  hiE : ∀ i, hi i ≤ ops.size ∧ (hi i < ops.size → isEff (Kd (hi i)) = true ∧ bitA A (hi i) i = true)
  loE : ∀ i, lo i ≤ ops.size ∧ ∀ m, m < lo i → isEff (Kd m) = true → bitA A i m = true
  lvE : ∀ i, i < ops.size → lvo i = cond (isEff (Kd i)) (i + 1) (hi i)
  chkO : ∀ (i : Nat) (o : Oper), ops[i]? = some o → ∀ x ∈ o.op.operands.toList, ∀ t, x = .tmp t → ∀ j, W.get t = some j → (j < i → bitA A i j = true ∧ lvo j ≤ cond (isEff (Kd i)) i (hi i)) ∧ (i < j → bitA A j i = true)
  chkG : ∀ (i : Nat) (o : Oper), ops[i]? = some o → ∀ g c d, o.guard = some (g, c) → (ops[g]?).bind (·.dst) = some d → ∀ j, W.get d = some j → (j < i → bitA A i j = true) ∧ (i < j → bitA A j i = true)
  ld : ∀ (i : Nat) (o : Oper), ops[i]? = some o → Kd i = 1 → ∃ t x ad v, o.op = .load t x ∧ ev (T i) x = .pointer (some ad) ∧ loadV Z (Hs i) t ad = some v ∧ ∀ j, lo i ≤ j → j ≤ hi i → loadV Z (Hs j) t ad = some v
  ef : ∀ i, i < ops.size → Kd i = 3 → i ≤ lo i
  no5 : ∀ i, i < ops.size → Kd i ≠ 5

section
variable {G : Nat} {C : Calls3} {nt : Nat} {ops : Array Oper} {A W : Tr Nat} {T : Nat → Tr Value} {Hs : Nat → Heap} {Kd lvo hi lo : Nat → Nat}
variable (R : Ref Z G C nt ops A W T Hs Kd lvo hi lo)
include R

theorem Ref.get {i : Nat} (h : i < ops.size) : ∃ o, ops[i]? = some o := ⟨ops[i], by simp [h]⟩
theorem Ref.next_le {i j : Nat} (hij : i ≤ j) (hj : j ≤ ops.size) : (Hs i).next ≤ (Hs j).next := by
  induction j with
  | zero => have : i = 0 := by omega
            subst this; exact Nat.le_refl _
  | succ j ih =>
    by_cases h : i = j + 1
    · subst h; exact Nat.le_refl _
    · exact Nat.le_trans (ih (by omega) (by omega)) (R.mono j (by omega))

omit R in
theorem kindOf_cases (o : Op) : kindOf o = 0 ∨ kindOf o = 1 ∨ kindOf o = 2 ∨ kindOf o = 3 ∨ kindOf o = 5 := by cases o <;> simp [kindOf]
omit R in
theorem light_same {ρ : Operand → Value} {h : Heap} {o : Oper} {out : Out} (hk : kindOf o.op = 0) (hd : doOp Z ρ h o = some out) : (∃ v, out = .val v .same) ∧ ∀ h', doOp Z ρ h' o = some out := by
  refine ⟨?_, fun h' => ?_⟩
  · unfold doOp at hd
    cases ho : o.op <;> simp only [ho, kindOf] at hk hd <;> first
      | (cases hk; done)
      | (simp only [Option.map_eq_some_iff] at hd; obtain ⟨v, _, rfl⟩ := hd; exact ⟨v, rfl⟩)
      | (split at hd <;> first | (cases hd; done) | (cases hd; exact ⟨_, rfl⟩) | (simp only [Option.map_eq_some_iff] at hd; obtain ⟨v, _, rfl⟩ := hd; exact ⟨v, rfl⟩))
      | (split at hd <;> first | (cases hd; done) | (rename_i t _; cases t <;> simp only [cond] at hd <;> split at hd <;> first | (cases hd; done) | (cases hd; exact ⟨_, rfl⟩)))
      | (simp only [Option.bind_eq_some_iff] at hd; obtain ⟨v, _, hd⟩ := hd; split at hd <;> first | (cases hd; done) | (cases hd; exact ⟨_, rfl⟩))
      | skip
    all_goals
      split at hd <;> first
        | (cases hd; done)
        | (split at hd <;> first | (cases hd; done) | (cases hd; exact ⟨_, rfl⟩))
  · rw [← hd]
    unfold doOp
    cases ho : o.op <;> simp only [ho, kindOf] at hk ⊢ <;> cases hk
omit R in
theorem bs_indep {ρ : Operand → Value} {h h' : Heap} {o : Oper} {out : Out} (hk : kindOf o.op = 2) (hd : doOp Z ρ h o = some out) (hn : h'.next = h.next) :
    (∃ v cells el, out = .val v (.new (.cells cells el (0, 0) false))) ∧ doOp Z ρ h' o = some out := by
  refine ⟨?_, ?_⟩
  · unfold doOp at hd
    cases ho : o.op <;> simp only [ho, kindOf] at hk hd <;> first
      | (cases hk; done)
      | skip
    split at hd
    · cases hd
    · simp only [Option.map_eq_some_iff] at hd
      obtain ⟨⟨v, d⟩, hb, rfl⟩ := hd
      simp only [buildSliceA, Option.bind_eq_bind, Option.bind_eq_some_iff] at hb
      obtain ⟨d1, _, hb⟩ := hb
      split at hb <;> try (cases hb; done)
      simp only [Option.bind_eq_some_iff] at hb
      obtain ⟨i, _, z, _, hb⟩ := hb
      split at hb
      · cases hb
      · simp only [Option.bind_eq_some_iff] at hb
        obtain ⟨cells, _, hb⟩ := hb
        cases hb
        exact ⟨_, _, _, rfl⟩
  · rw [← hd]
    unfold doOp
    cases ho : o.op <;> simp only [ho, kindOf] at hk ⊢ <;> first | (cases hk; done) | skip
    simp only [buildSliceA, hn]

/-- The temporaries, at each operation: ahead of the one that writes them as at the beginning, behind it as at the end. -/
theorem Ref.T_step {i : Nat} {o : Oper} (ho : ops[i]? = some o) (hnt : nt ≤ 2 ^ 30) : ∃ v, (∀ t, (T (i + 1)).get t = if o.dst = some t then some v else (T i).get t) := by
  obtain ⟨b, hb, hk, hf0, hf1⟩ := R.fact i o ho
  have hput : ∀ v, T (i + 1) = putA (T i) o.dst v → ∀ t, (T (i + 1)).get t = if o.dst = some t then some v else (T i).get t := by
    intro v hv t
    rw [hv]
    cases hd : o.dst with
    | none => simp [putA]
    | some d =>
      have hok := R.ok i o ho
      simp only [opOk, hd, Bool.and_eq_true] at hok
      have hdn : d < nt := Nat.blt_eq.mp hok.1
      simp only [putA]
      rw [Tr.get_set _ _ _ _ (by have : @LT.lt Nat _ d nt := hdn; omega)]
      by_cases htd : t = d
      · subst htd; simp
      · rw [if_neg htd, if_neg (by simp; exact fun h => htd h.symm)]
  cases b with
  | false => exact ⟨_, hput _ (hf0 rfl).1⟩
  | true =>
    obtain ⟨out, _, hof⟩ := hf1 rfl
    cases out with
    | val v d => exact ⟨v, hput v hof.1⟩
    | enter f args => obtain ⟨v, _, hv⟩ := hof; exact ⟨v, hput v hv⟩
    | round l args => obtain ⟨v, _, hv⟩ := hof; exact ⟨v, hput v hv⟩
    | defer d => exact hof.elim
    | recover => exact hof.elim
    | panic v => exact hof.elim

theorem Ref.T_none (hnt : nt ≤ 2 ^ 30) {t : Nat} (hW : W.get t = none) : ∀ i, i ≤ ops.size → (T i).get t = (T 0).get t := by
  intro i
  induction i with
  | zero => intro _; rfl
  | succ i ih =>
    intro hi
    obtain ⟨o, ho⟩ := R.get (i := i) (by omega)
    obtain ⟨v, hv⟩ := R.T_step ho hnt
    rw [hv t, if_neg (fun hd => by rw [R.wr i o t ho hd] at hW; cases hW), ih (by omega)]
theorem Ref.T_ahead (hnt : nt ≤ 2 ^ 30) {t j : Nat} (hW : W.get t = some j) : ∀ i, i ≤ ops.size → i ≤ j → (T i).get t = (T 0).get t := by
  intro i
  induction i with
  | zero => intro _ _; rfl
  | succ i ih =>
    intro hi hij
    obtain ⟨o, ho⟩ := R.get (i := i) (by omega)
    obtain ⟨v, hv⟩ := R.T_step ho hnt
    rw [hv t, if_neg (fun hd => by rw [R.wr i o t ho hd] at hW; cases hW; omega), ih (by omega) (by omega)]
theorem Ref.T_behind (hnt : nt ≤ 2 ^ 30) {t j : Nat} (hW : W.get t = some j) : ∀ i i', j < i → i ≤ i' → i' ≤ ops.size → (T i').get t = (T i).get t := by
  intro i i' hj hii
  induction i' with
  | zero => intro _; have : i = 0 := by omega
            subst this; rfl
  | succ i' ih =>
    intro hk
    by_cases h : i = i' + 1
    · subst h; rfl
    · obtain ⟨o, ho⟩ := R.get (i := i') (by omega)
      obtain ⟨v, hv⟩ := R.T_step ho hnt
      rw [hv t, if_neg (fun hd => by rw [R.wr i' o t ho hd] at hW; cases hW; omega), ih (by omega) (by omega)]

/-- What does not do anything to memory. -/
theorem Ref.H_light {i : Nat} (hi : i < ops.size) (he : isEff (Kd i) = false) : Hs (i + 1) = Hs i := by
  obtain ⟨o, ho⟩ := R.get hi
  obtain ⟨b, hb, hk, hf0, hf1⟩ := R.fact i o ho
  cases b with
  | false => exact (hf0 rfl).2
  | true =>
    obtain ⟨out, hd, hof⟩ := hf1 rfl
    simp only [cond] at hk
    have h5 := R.no5 i hi
    rw [hk] at he h5
    have hk01 : kindOf o.op = 0 ∨ kindOf o.op = 1 := by
      rcases kindOf_cases o.op with h | h | h | h | h <;> rw [h] at he h5 ⊢
      · exact .inl rfl
      · exact .inr rfl
      · simp [isEff] at he
      · simp [isEff] at he
      · exact (h5 rfl).elim
    rcases hk01 with h0 | h1
    · obtain ⟨⟨v, rfl⟩, _⟩ := light_same h0 hd
      exact hof.2
    · obtain ⟨t, x, ad, v, hop, hx, hl, _⟩ := R.ld i o ho (hk.trans h1)
      unfold doOp at hd
      simp only [hop, hx, hl, Option.map_some] at hd
      cases hd
      exact hof.2
theorem Ref.H_const {i j : Nat} (hij : i ≤ j) (hj : j ≤ ops.size) (h : ∀ m, i ≤ m → m < j → isEff (Kd m) = false) : Hs j = Hs i := by
  induction j with
  | zero => have : i = 0 := by omega
            subst this; rfl
  | succ j ih =>
    by_cases hx : i = j + 1
    · subst hx; rfl
    · rw [R.H_light (by omega) (h j (by omega) (by omega)), ih (by omega) (by omega) fun m hm hmj => h m hm (by omega)]
end
end Go.Eng
