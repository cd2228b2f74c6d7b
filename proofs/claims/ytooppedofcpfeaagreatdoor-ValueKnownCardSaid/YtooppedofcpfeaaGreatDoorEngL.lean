/- Each operation. -/
import Derived.Test.YtooppedofcpfeaaGreatDoorEngK
set_option linter.all false
namespace Go.Eng
variable [Shift]
variable {p : Par} {e e' : Env} {H H' : Heap} {w w' : World} {Z : Tab}

theorem all_of_not {α : Type} {l : List α} {f : α → Bool} (h : ¬ (!(l.all f)) = true) : ∀ x ∈ l, f x = true := by
  have : l.all f = true := by cases hb : l.all f with
    | true => rfl
    | false => rw [hb] at h; exact (h rfl).elim
  exact List.all_eq_true.1 this
theorem arr_list (f : Value → Value) (xs : Array Value) : xs.map f = (xs.toList.map f).toArray := by apply Array.ext'; simp

/-- What the evaluator knows of an operand is what the frame holds. -/
def ERel (K : Operand → Bool) (e : Env) (n : Nat → Prop) (ρ ρ' : Operand → Value) : Prop := ∀ x, K x = true → known (ρ x) = true → ρ' x = ren e (ρ x) ∧ Und n (ρ x)

section
variable {K : Operand → Bool} {ρ ρ' : Operand → Value} {n : Nat → Prop} (h : ERel K e n ρ ρ')
include h
theorem ERel.at' {x : Operand} {v : Value} (hx : K x = true) (hv : ρ x = v) (hk : known v = true) : ρ' x = ren e v ∧ Und n v := by
  have := h x hx (by rw [hv]; exact hk)
  rw [hv] at this; exact this
theorem ERel.arr {xs : Array Operand} (hx : ∀ x ∈ xs.toList, K x = true) (hk : ∀ x ∈ xs.toList, known (ρ x) = true) : xs.map ρ' = (xs.map ρ).map (ren e) ∧ ∀ v ∈ xs.map ρ, Und n v := by
  refine ⟨?_, ?_⟩
  · rw [Array.map_map]
    exact Array.map_congr_left fun x hxm => (h x (hx x (by simpa using hxm)) (hk x (by simpa using hxm))).1
  · intro v hv
    obtain ⟨x, hxm, rfl⟩ := Array.mem_map.1 hv
    exact (h x (hx x (by simpa using hxm)) (hk x (by simpa using hxm))).2
end

theorem resolveA_sound {K : Operand → Bool} {ρ ρ' : Operand → Value} {n : Nat → Prop} (hE : ERel K e n ρ ρ') {c : Call} {ty : TypeId} {d : Deferred} (h : resolveA ρ c ty = some d) (hok : ∀ x ∈ c.operands.toList, K x = true) :
    (resolve ρ' c ty).run p.P w = .ok (renD e d) w ∧ (∀ f cap, d.target = .fn f cap → ∀ v ∈ cap, Und n v) ∧ (∀ v ∈ d.args, Und n v) ∧ (∀ e e', Agree n e e' → renT e d.target = renT e' d.target) := by
  simp only [resolveA] at h
  split at h
  · cases h
  rename_i hk
  have hk' : ∀ x ∈ c.args.toList, known (ρ x) = true := all_of_not hk
  have hargs : ∀ x ∈ c.args.toList, K x = true := fun x hx => hok x (by
    simp only [Call.operands, Array.toList_append, List.mem_append]; exact .inr hx)
  obtain ⟨ha, hu⟩ := hE.arr hargs hk'
  split at h
  · rename_i b hc
    cases h
    refine ⟨?_, (fun f cap hf => by cases hf), hu, fun _ _ _ => rfl⟩
    simp [resolve, hc, renD, renT, ha]
    exact fun a _ => by cases a <;> rfl
  · rename_i recv name hc
    split at h <;> try (cases h; done)
    rename_i hkr
    cases h
    have hr := hE recv (hok recv (by simp [Call.operands, hc])) hkr
    refine ⟨?_, (fun f cap hf v hv => by cases hf; simp at hv), ?_, (fun _ _ _ => by simp [renT, renFn])⟩
    · simp [resolve, hc, renD, renT, renFn, ha, hr.1]
    · intro v hv
      rcases Array.mem_append.1 hv with hv | hv
      · simp only [List.mem_toArray, List.mem_singleton] at hv; rw [hv]; exact hr.2
      · exact hu v hv
  · rename_i f hc
    split at h <;> try (cases h; done)
    rename_i fn first cap hf
    cases h
    obtain ⟨h1, h2⟩ := hE.at' (hok f (by simp [Call.operands, hc])) hf rfl
    obtain ⟨u1, u2, u3⟩ := und_func_inv h2
    refine ⟨?_, (fun f' cap' hf' v hv => by cases hf'; exact u3 v hv), ?_, fun e1 e2 hag => ?_⟩
    · simp [resolve, hc, h1, Deferred.ofValue, renD, renT, ha]
    · intro v hv
      rcases Array.mem_append.1 hv with hv | hv
      · exact u2 v hv
      · exact hu v hv
    · simp only [renT, u1 e1 e2 hag, und_arr u3 hag]

theorem makeSliceA_known {t : TypeId} {l c : Value} {r : Value × Delta} (h : makeSliceA Z H t l c = some r) : known l = true ∧ known c = true := by
  simp only [makeSliceA, Option.bind_eq_bind, Option.bind_eq_some_iff] at h
  obtain ⟨d1, hd, h⟩ := h
  split at h <;> try (cases h; done)
  simp only [Option.bind_eq_some_iff] at h
  obtain ⟨i, hi, h⟩ := h
  split at h <;> try (cases h; done)
  split at h <;> try (cases h; done)
  exact ⟨rfl, rfl⟩
theorem sliceA_known {t : TypeId} {x v : Value} {lo hi mx : Option Value} (h : sliceA Z H t x lo hi mx = some v) : known x = true ∧ (∀ y, lo = some y → known y = true) ∧ (∀ y, hi = some y → known y = true) ∧ mx = none := by
  have hb : ∀ {y : Option Value} {d n r : Nat}, bound y d n = some r → ∀ z, y = some z → known z = true := by
    intro y d n r hb z hz
    subst hz
    unfold bound at hb
    split at hb
    · cases ‹some z = none›
    · rename_i heq; cases heq; rfl
    · cases hb
  simp only [sliceA] at h
  split at h
  · cases h
  rename_i hmx
  have hmx' : mx = none := by simpa using hmx
  simp only [Option.bind_eq_bind, Option.bind_eq_some_iff] at h
  obtain ⟨d, hd, h⟩ := h
  split at h <;> try (cases h; done)
  all_goals
    simp only [Option.bind_eq_some_iff] at h
    obtain ⟨hh, h1, l, h2, h⟩ := h
    exact ⟨rfl, hb h2, hb h1, hmx'⟩

theorem doOp_sound (hZ : TOk Z p) (hR : Rel p e H w) (hs : H.next + 2 < 2 ^ 40) {K : Operand → Bool} {ρ ρ' : Operand → Value} (hE : ERel K e H.D ρ ρ') {o : Oper} (hok : ∀ x ∈ o.op.operands.toList, K x = true)
    {out : Out} (h : doOp Z ρ H o = some out) : OutRel Z p e H w (execOp ρ' o) out := by
  unfold doOp at h
  unfold execOp
  cases ho : o.op with
  | move x =>
    simp only [ho] at h ⊢ hok
    split at h <;> try (cases h; done)
    rename_i hk
    cases h
    have hx := hE x (hok x (by simp [Op.operands])) hk
    exact OutRel.same hR (by simp [hx.1]) hx.2
  | assign x =>
    simp only [ho] at h ⊢ hok
    split at h <;> try (cases h; done)
    rename_i hk
    cases h
    have hx := hE x (hok x (by simp [Op.operands])) hk
    exact OutRel.same hR (by simp [hx.1]) hx.2
  | pick c a b =>
    simp only [ho] at h ⊢ hok
    split at h <;> try (cases h; done)
    rename_i t hc
    have hcc := hE.at' (hok c (by simp [Op.operands])) hc rfl
    cases t with
    | true =>
      simp only [cond] at h
      split at h <;> try (cases h; done)
      rename_i hk
      cases h
      have hx := hE a (hok a (by simp [Op.operands])) hk
      exact OutRel.same hR (by simp [hcc.1, asBool, hx.1]) hx.2
    | false =>
      simp only [cond] at h
      split at h <;> try (cases h; done)
      rename_i hk
      cases h
      have hx := hE b (hok b (by simp [Op.operands])) hk
      exact OutRel.same hR (by simp [hcc.1, asBool, hx.1]) hx.2
  | alloc el =>
    simp only [ho, Option.bind_eq_bind, Option.bind_eq_some_iff] at h ⊢
    obtain ⟨i, hi, z, hz, h⟩ := h
    split at h <;> try (cases h; done)
    rename_i hp
    cases h
    have hu : ∀ v ∈ z.cells.toList, Und H.D v := und_plain_cells hp
    refine ⟨_, _, .inl ?_, Step.row hR (el := el) hu hs, und_ptr hR.newD⟩
    rw [plain_cells hp]
    simp [Instr.alloc, r_zero (hZ.info _ _ hi) hz, newVar, run_newRow, Env.addr, hR.shiftN hR.nxt, Nat.add_zero]
  | box el x =>
    simp only [ho] at h ⊢ hok
    split at h
    · cases h
    rename_i hk
    cases h
    have hx := hE x (hok x (by simp [Op.operands])) (by simpa using hk)
    refine ⟨_, _, .inl ?_, Step.row hR (el := el) (und_cells hx.2) hs, und_ptr hR.newD⟩
    rw [hx.1]
    simp only [Instr.box, newVar, Sem.run_bind, run_newRow, Result.andThen_ok, Sem.run_pure, cells_ren, ren_ptr, Env.addr, hR.shiftN hR.nxt, Nat.add_zero, Env.more_ρ, arr_list]
  | build t parts =>
    simp only [ho] at h ⊢ hok
    split at h
    · cases h
    rename_i hk
    simp only [Option.map_eq_some_iff] at h
    obtain ⟨v, hv, rfl⟩ := h
    have hk' : ∀ x ∈ parts.toList, known (ρ x.2) = true := all_of_not hk
    have hx : ∀ x ∈ parts.toList, ρ' x.2 = ren e (ρ x.2) ∧ Und H.D (ρ x.2) := fun x hx => hE x.2 (hok x.2 (by simp [Op.operands]; exact ⟨x.1, by simpa using hx⟩)) (hk' x hx)
    have heq : (parts.map fun (i, x) => (i, ρ' x)) = (parts.map fun x => (x.1, ρ x.2)).map fun x => (x.1, ren e x.2) := by
      rw [Array.map_map]
      exact Array.map_congr_left fun x hxm => by simp [(hx x (by simpa using hxm)).1]
    have hb := buildA_sound (e := e) (w := w) hZ (parts := parts.map fun x => (x.1, ρ x.2)) (by simpa using hv) (by
      intro y hy
      simp only [Array.toList_map, List.mem_map] at hy
      obtain ⟨x, hxm, rfl⟩ := hy
      exact (hx x hxm).2)
    exact OutRel.same hR (by rw [heq]; simp only [Sem.run_bind, hb.1, Result.andThen_ok, Sem.run_pure]) hb.2
  | buildSlice t len parts =>
    simp only [ho] at h ⊢ hok
    split at h
    · cases h
    rename_i hk
    simp only [Option.map_eq_some_iff] at h
    obtain ⟨⟨v, d⟩, hv, rfl⟩ := h
    have hk' : ∀ x ∈ parts.toList, known (ρ x.2) = true := all_of_not hk
    have hx : ∀ x ∈ parts.toList, ρ' x.2 = ren e (ρ x.2) ∧ Und H.D (ρ x.2) := fun x hx => hE x.2 (hok x.2 (by simp [Op.operands]; exact ⟨x.1, by simpa using hx⟩)) (hk' x hx)
    have heq : (parts.map fun (i, x) => (i, ρ' x)) = (parts.map fun x => (x.1, ρ x.2)).map fun x => (x.1, ren e x.2) := by
      rw [Array.map_map]
      exact Array.map_congr_left fun x hxm => by simp [(hx x (by simpa using hxm)).1]
    obtain ⟨e', w', hrun, hstep, hu⟩ := buildSliceA_sound hZ hR hs (parts := parts.map fun x => (x.1, ρ x.2)) (by simpa using hv) (by
      intro y hy
      simp only [Array.toList_map, List.mem_map] at hy
      obtain ⟨x, hxm, rfl⟩ := hy
      exact (hx x hxm).2)
    exact ⟨e', w', .inl (by rw [heq]; simp only [Sem.run_bind, hrun, Result.andThen_ok, Sem.run_pure]), hstep, hu⟩
  | load t a =>
    simp only [ho] at h ⊢ hok
    split at h <;> try (cases h; done)
    rename_i ad ha
    simp only [Option.map_eq_some_iff] at h
    obtain ⟨v, hv, rfl⟩ := h
    have hx := hE.at' (hok a (by simp [Op.operands])) ha rfl
    obtain ⟨hr, hu⟩ := loadV_sound hZ hR hv
    exact OutRel.same hR (by simp [Instr.loadAt, hx.1, Instr.sureAddr, hr]) hu
  | store t a x =>
    simp only [ho] at h ⊢ hok
    split at h <;> try (cases h; done)
    rename_i ad ha
    split at h
    · cases h
    rename_i hk
    simp only [Option.map_eq_some_iff] at h
    obtain ⟨d, hd, rfl⟩ := h
    have hx := hE.at' (hok a (by simp [Op.operands])) ha rfl
    have hy := hE x (hok x (by simp [Op.operands])) (by simpa using hk)
    obtain ⟨w', hr, hstep⟩ := storeV_sound hZ hR hd hy.2
    exact ⟨e, w', .inr ⟨by simp [Instr.storeAt, hx.1, hy.1, Instr.sureAddr, hr], rfl⟩, hstep, und_undef⟩
  | nilCheck x =>
    simp only [ho] at h ⊢ hok
    split at h <;> try (cases h; done)
    · rename_i a ha
      cases h
      have hx := hE.at' (hok x (by simp [Op.operands])) ha rfl
      exact OutRel.same hR (by simp [hx.1]) hx.2
    · rename_i t v ha
      cases h
      have hx := hE.at' (hok x (by simp [Op.operands])) ha rfl
      exact OutRel.same hR (by simp [hx.1]) hx.2
    · rename_i f a b ha
      cases h
      have hx := hE.at' (hok x (by simp [Op.operands])) ha rfl
      exact OutRel.same hR (by simp [hx.1, renFn]) hx.2
  | binOp op t x y yt =>
    simp only [ho] at h ⊢ hok
    simp only [Option.map_eq_some_iff] at h
    obtain ⟨v, hv, rfl⟩ := h
    have hkx : known (ρ x) = true ∧ known (ρ y) = true := by
      simp only [binOpA] at hv
      cases hx : ρ x <;> cases hy : ρ y <;> simp_all [scalar, isNum, known]
    have hx := hE x (hok x (by simp [Op.operands])) hkx.1
    have hy := hE y (hok y (by simp [Op.operands])) hkx.2
    obtain ⟨hr, hsc⟩ := binOpA_sound (e := e) (w := w) hZ hv rfl
    refine OutRel.same hR ?_ (und_scalar hsc)
    rw [hx.1, hy.1, ren_scalar hsc]
    simp only [Sem.run_bind] at hr ⊢
    rw [hr]
    rfl
  | unOp op t x =>
    simp only [ho] at h ⊢ hok
    simp only [Option.bind_eq_some_iff] at h
    obtain ⟨v, hv, h⟩ := h
    split at h <;> try (cases h; done)
    rename_i hsx
    cases h
    have hx := hE x (hok x (by simp [Op.operands])) (by cases hx : ρ x <;> simp_all [scalar, known])
    obtain ⟨hr, hsc⟩ := pureOf_run (P := p.P) hv w
    refine OutRel.same hR ?_ (und_scalar hsc)
    rw [hx.1, ren_scalar hsx, ren_scalar hsc]
    simp [hr]
  | convert s d x =>
    simp only [ho] at h ⊢ hok
    have hkx : known (ρ x) = true := by
      cases hx : ρ x <;> simp only [known]
      rename_i r
      cases r with
      | none => rfl
      | some r =>
        simp only [hx, toBytesA, convertA, Option.bind_eq_bind, Option.map_eq_some_iff, Option.bind_eq_some_iff] at h
        obtain ⟨_, ⟨d1, _, d2, _, h⟩, _⟩ := h
        cases h
    have hx := hE x (hok x (by simp [Op.operands])) hkx
    split at h
    · rename_i r hr
      cases h
      obtain ⟨v, d'⟩ := r
      obtain ⟨e', w', hrun, hstep, hu⟩ := toBytesA_sound hZ hR hs hr
      exact ⟨e', w', .inl (by simp [hx.1, hrun]), hstep, hu⟩
    · simp only [Option.map_eq_some_iff] at h
      obtain ⟨v, hv, rfl⟩ := h
      obtain ⟨hr, hu⟩ := convertA_sound hZ hR hv hx.2
      exact OutRel.same hR (by simp [hx.1, hr]) hu
  | makeInterface t x =>
    simp only [ho] at h ⊢ hok
    split at h <;> try (cases h; done)
    rename_i d hni hd
    split at h
    · cases h
    rename_i hk
    cases h
    have hx := hE x (hok x (by simp [Op.operands])) (by simpa using hk)
    have hud := hZ.und _ _ hd
    refine OutRel.same hR ?_ (und_iface hx.2)
    simp only [Instr.makeInterface, Sem.run_bind, r_und hud, Result.andThen_ok, hx.1]
    cases d <;> first | exact (hni _ rfl).elim | simp
  | makeFunc fn first cap =>
    simp only [ho] at h ⊢ hok
    split at h <;> try (cases h; done)
    rename_i hny
    split at h
    · cases h
    rename_i hk
    cases h
    simp only [Bool.or_eq_true, Bool.not_eq_true', not_or, Bool.not_eq_false, List.all_eq_true] at hk
    obtain ⟨a1, u1⟩ := hE.arr (xs := first) (fun x hx => hok x (by simp [Op.operands]; exact .inl (by simpa using hx))) hk.1
    obtain ⟨a2, u2⟩ := hE.arr (xs := cap) (fun x hx => hok x (by simp [Op.operands]; exact .inr (by simpa using hx))) hk.2
    have hfn : ∀ e : Env, renFn e fn = fn := fun e => by cases fn <;> first | rfl | exact (hny _ rfl).elim
    exact OutRel.same hR (by simp [Instr.makeFunc, a1, a2, hfn]) (und_func (fun e e' _ => by rw [hfn, hfn]) u1 u2)
  | makeSlice t l c =>
    simp only [ho] at h ⊢ hok
    simp only [Option.map_eq_some_iff] at h
    obtain ⟨⟨v, d⟩, hv, rfl⟩ := h
    have hkx : known (ρ l) = true ∧ known (ρ c) = true := by
      exact makeSliceA_known hv
    have hx := hE l (hok l (by simp [Op.operands])) hkx.1
    have hy := hE c (hok c (by simp [Op.operands])) hkx.2
    obtain ⟨e', w', hrun, hstep, hu⟩ := makeSliceA_sound (e := e) hZ hR hs hv
    exact ⟨e', w', .inl (by simp [hx.1, hy.1, hrun]), hstep, hu⟩
  | slice t x lo hi mx =>
    simp only [ho] at h ⊢ hok
    simp only [Option.map_eq_some_iff] at h
    obtain ⟨v, hv, rfl⟩ := h
    obtain ⟨k1, k2, k3, k4⟩ := sliceA_known hv
    have hmx : mx = none := by simpa using k4
    subst hmx
    have hx := hE x (hok x (by simp [Op.operands])) k1
    have hlo : lo.map ρ' = (lo.map ρ).map (ren e) := by
      cases lo with
      | none => rfl
      | some y => simp [(hE y (hok y (by simp [Op.operands])) (k2 _ rfl)).1]
    have hhi : hi.map ρ' = (hi.map ρ).map (ren e) := by
      cases hi with
      | none => rfl
      | some y => simp [(hE y (hok y (by simp [Op.operands])) (k3 _ rfl)).1]
    obtain ⟨hr, hu⟩ := sliceA_sound hZ hR hv hx.2
    refine OutRel.same hR ?_ hu
    rw [hx.1, hlo, hhi]
    simp only [Option.map_none] at hr ⊢
    simp only [Sem.run_bind, hr, Result.andThen_ok, Sem.run_pure]
  | fieldAddr t x f =>
    simp only [ho] at h ⊢ hok
    simp only [Option.map_eq_some_iff] at h
    obtain ⟨v, hv, rfl⟩ := h
    have hk : known (ρ x) = true := by
      cases hx : ρ x <;> first | rfl | skip
      simp only [fieldAddrA, hx, Option.bind_eq_bind, Option.bind_eq_some_iff] at hv
      obtain ⟨d, _, hv⟩ := hv
      split at hv <;> try (cases hv; done)
      simp only [Option.bind_eq_some_iff] at hv
      obtain ⟨_, _, _, _, hv⟩ := hv
      cases hv
    have hx := hE x (hok x (by simp [Op.operands])) hk
    obtain ⟨hr, hu⟩ := fieldAddrA_sound (e := e) (w := w) hZ hv hx.2
    exact OutRel.same hR (by rw [hx.1]; simp only [Sem.run_bind, hr, Result.andThen_ok, Sem.run_pure]) hu
  | field t x f =>
    simp only [ho] at h ⊢ hok
    simp only [Option.map_eq_some_iff] at h
    obtain ⟨v, hv, rfl⟩ := h
    have hk : known (ρ x) = true := by
      cases hx : ρ x <;> first | rfl | skip
      simp only [fieldA, hx, Option.bind_eq_bind, Option.bind_eq_some_iff] at hv
      obtain ⟨d, _, hv⟩ := hv
      split at hv <;> try (cases hv; done)
      simp only [Option.bind_eq_some_iff] at hv
      obtain ⟨_, _, hv⟩ := hv
      cases hv
    have hx := hE x (hok x (by simp [Op.operands])) hk
    obtain ⟨hr, hu⟩ := fieldA_sound (e := e) (w := w) hZ hv hx.2
    exact OutRel.same hR (by rw [hx.1]; simp only [Sem.run_bind, hr, Result.andThen_ok, Sem.run_pure]) hu
  | indexAddr t x i =>
    simp only [ho] at h ⊢ hok
    simp only [Option.map_eq_some_iff] at h
    obtain ⟨v, hv, rfl⟩ := h
    have hki : known (ρ i) = true := by
      simp only [indexAddrA] at hv
      split at hv <;> try (cases hv; done)
      rename_i heq; rw [heq]; rfl
    have hk : known (ρ x) = true := by
      cases hx : ρ x <;> first | rfl | skip
      simp only [indexAddrA, hx] at hv
      split at hv <;> try (cases hv; done)
      simp only [Option.bind_eq_bind, Option.bind_eq_some_iff] at hv
      obtain ⟨d, _, hv⟩ := hv
      first | (cases hv; done) | (split at hv <;> cases hv)
    have hx := hE x (hok x (by simp [Op.operands])) hk
    have hy := hE i (hok i (by simp [Op.operands])) hki
    obtain ⟨hr, hu⟩ := indexAddrA_sound (e := e) (w := w) hZ hv hx.2
    exact OutRel.same hR (by rw [hx.1, hy.1]; simp only [Sem.run_bind, hr, Result.andThen_ok, Sem.run_pure]) hu
  | index t x i =>
    simp only [ho] at h ⊢ hok
    simp only [Option.map_eq_some_iff] at h
    obtain ⟨v, hv, rfl⟩ := h
    have hki : known (ρ i) = true := by
      simp only [indexA] at hv
      split at hv <;> try (cases hv; done)
      rename_i heq; rw [heq]; rfl
    have hk : known (ρ x) = true := by
      cases hx : ρ x <;> first | rfl | skip
      simp only [indexA, hx] at hv
      split at hv <;> try (cases hv; done)
      simp only [Option.bind_eq_bind, Option.bind_eq_some_iff] at hv
      obtain ⟨d, _, hv⟩ := hv
      first | (cases hv; done) | (split at hv <;> cases hv)
    have hx := hE x (hok x (by simp [Op.operands])) hk
    have hy := hE i (hok i (by simp [Op.operands])) hki
    obtain ⟨hr, hu⟩ := indexA_sound (e := e) (w := w) hZ hv hx.2
    exact OutRel.same hR (by rw [hx.1, hy.1]; simp only [Sem.run_bind, hr, Result.andThen_ok, Sem.run_pure]) hu
  | extract t i =>
    simp only [ho] at h ⊢ hok
    split at h <;> try (cases h; done)
    rename_i vs ha
    simp only [Option.map_eq_some_iff] at h
    obtain ⟨v, hv, rfl⟩ := h
    have hx := hE.at' (hok t (by simp [Op.operands])) ha rfl
    refine OutRel.same hR ?_ (und_tuple_inv hx.2 v (Array.mem_of_getElem? hv))
    rw [hx.1]
    simp [Instr.extract, hv]
  | call c =>
    simp only [ho, Option.bind_eq_bind, Option.bind_eq_some_iff] at h ⊢ hok
    obtain ⟨d, hd, h⟩ := h
    obtain ⟨hr, hu1, hu2, hu3⟩ := resolveA_sound (p := p) (w := w) hE hd (by simpa [Op.operands] using hok)
    have := invokeA_sound hZ hR hs h hu1 (by simpa using hu2)
    refine this.of_run ?_
    simp only [Sem.run_bind, hr, Result.andThen_ok, renD]
    rw [arr_list]
  | defer c =>
    simp only [ho] at h ⊢ hok
    simp only [Option.map_eq_some_iff] at h
    obtain ⟨d, hd, rfl⟩ := h
    obtain ⟨hr, hu1, hu2, hu3⟩ := resolveA_sound (p := p) (w := w) hE hd (by simpa [Op.operands] using hok)
    refine ⟨by simp only [Sem.run_bind, hr, Result.andThen_ok, Sem.run_pure], fun e1 e2 ha => ?_⟩
    simp only [renD, hu3 e1 e2 ha, und_arr hu2 ha]
  | panic x =>
    simp only [ho] at h ⊢ hok
    split at h <;> try (cases h; done)
    rename_i t v ha
    cases h
    have hx := hE.at' (hok x (by simp [Op.operands])) ha rfl
    refine ⟨?_, hx.2⟩
    rw [hx.1]
    simp [Instr.panic]
  | _ => simp only [ho] at h; cases h
end Go.Eng
