/- The evaluator: operations, lists of them, code, and calls are followed soundly. -/
import Derived.Test.YtofboalgbgipoaaGreatDoorEng1
import Derived.Laws.NewFold
import Derived.RangeFuncCalls
import Derived.RangeFuncLeaves
import Derived.RecoverIn
import Derived.OrdersIn
import Derived.LoopNIn
import Derived.TacticsIn
set_option linter.all false
noncomputable section
namespace Go.Eng
variable [Shift]
variable {p : Par} {e e' : Env} {H H' : Heap} {w w' : World} {Z : Tab}

theorem all_of_not {α : Type} {l : List α} {f : α → Bool} (h : ¬ (!(l.all f)) = true) : ∀ x ∈ l, f x = true := by
  have : l.all f = true := by cases hb : l.all f with
    | true => rfl
    | false => rw [hb] at h; exact (h rfl).elim
  exact List.all_eq_true.1 this
theorem arr_list (f : Value → Value) (xs : Array Value) : xs.map f = (xs.toList.map f).toArray := by apply Array.ext'; simp

/-- What the evaluator knows of an operand is what the frame holds. -/
def ERel (K : Operand → Bool) (e : Env) (n : Nat → Prop) (ρ ρ' : Operand → Value) : Prop := ∀ x, K x = true → known (ρ x) = true → ρ' x = ren e (ρ x) ∧ Und n (ρ x)

section
variable {K : Operand → Bool} {ρ ρ' : Operand → Value} {n : Nat → Prop} (h : ERel K e n ρ ρ')
include h
theorem ERel.at' {x : Operand} {v : Value} (hx : K x = true) (hv : ρ x = v) (hk : known v = true) : ρ' x = ren e v ∧ Und n v := by
  have := h x hx (by rw [hv]; exact hk)
  rw [hv] at this; exact this
theorem ERel.arr {xs : Array Operand} (hx : ∀ x ∈ xs.toList, K x = true) (hk : ∀ x ∈ xs.toList, known (ρ x) = true) : xs.map ρ' = (xs.map ρ).map (ren e) ∧ ∀ v ∈ xs.map ρ, Und n v := by
  refine ⟨?_, ?_⟩
  · rw [Array.map_map]
    exact Array.map_congr_left fun x hxm => (h x (hx x (by simpa using hxm)) (hk x (by simpa using hxm))).1
  · intro v hv
    obtain ⟨x, hxm, rfl⟩ := Array.mem_map.1 hv
    exact (h x (hx x (by simpa using hxm)) (hk x (by simpa using hxm))).2
end

theorem resolveA_sound {K : Operand → Bool} {ρ ρ' : Operand → Value} {n : Nat → Prop} (hE : ERel K e n ρ ρ') {c : Call} {ty : TypeId} {d : Deferred} (h : resolveA ρ c ty = some d) (hok : ∀ x ∈ c.operands.toList, K x = true) :
    (resolve ρ' c ty).run p.P w = .ok (renD e d) w ∧ (∀ f cap, d.target = .fn f cap → ∀ v ∈ cap, Und n v) ∧ (∀ v ∈ d.args, Und n v) ∧ (∀ e e', Agree n e e' → renT e d.target = renT e' d.target) := by
  simp only [resolveA] at h
  split at h
  · cases h
  rename_i hk
  have hk' : ∀ x ∈ c.args.toList, known (ρ x) = true := all_of_not hk
  have hargs : ∀ x ∈ c.args.toList, K x = true := fun x hx => hok x (by
    simp only [Call.operands, Array.toList_append, List.mem_append]; exact .inr hx)
  obtain ⟨ha, hu⟩ := hE.arr hargs hk'
  split at h
  · rename_i b hc
    cases h
    refine ⟨?_, (fun f cap hf => by cases hf), hu, fun _ _ _ => rfl⟩
    simp [resolve, hc, renD, renT, ha]
    exact fun a _ => by cases a <;> rfl
  · rename_i recv name hc
    split at h <;> try (cases h; done)
    rename_i hkr
    cases h
    have hr := hE recv (hok recv (by simp [Call.operands, hc])) hkr
    refine ⟨?_, (fun f cap hf v hv => by cases hf; simp at hv), ?_, (fun _ _ _ => by simp [renT, renFn])⟩
    · simp [resolve, hc, renD, renT, renFn, ha, hr.1]
    · intro v hv
      rcases Array.mem_append.1 hv with hv | hv
      · simp only [List.mem_toArray, List.mem_singleton] at hv; rw [hv]; exact hr.2
      · exact hu v hv
  · rename_i f hc
    split at h <;> try (cases h; done)
    rename_i fn first cap hf
    cases h
    obtain ⟨h1, h2⟩ := hE.at' (hok f (by simp [Call.operands, hc])) hf rfl
    obtain ⟨u1, u2, u3⟩ := und_func_inv h2
    refine ⟨?_, (fun f' cap' hf' v hv => by cases hf'; exact u3 v hv), ?_, fun e1 e2 hag => ?_⟩
    · simp [resolve, hc, h1, Deferred.ofValue, renD, renT, ha]
    · intro v hv
      rcases Array.mem_append.1 hv with hv | hv
      · exact u2 v hv
      · exact hu v hv
    · simp only [renT, u1 e1 e2 hag, und_arr u3 hag]

theorem makeSliceA_known {t : TypeId} {l c : Value} {r : Value × Delta} (h : makeSliceA Z H t l c = some r) : known l = true ∧ known c = true := by
  simp only [makeSliceA, Option.bind_eq_bind, Option.bind_eq_some_iff] at h
  obtain ⟨d1, hd, h⟩ := h
  split at h <;> try (cases h; done)
  simp only [Option.bind_eq_some_iff] at h
  obtain ⟨i, hi, h⟩ := h
  split at h <;> try (cases h; done)
  split at h <;> try (cases h; done)
  exact ⟨rfl, rfl⟩
theorem sliceA_known {t : TypeId} {x v : Value} {lo hi mx : Option Value} (h : sliceA Z H t x lo hi mx = some v) : known x = true ∧ (∀ y, lo = some y → known y = true) ∧ (∀ y, hi = some y → known y = true) ∧ mx = none := by
  have hb : ∀ {y : Option Value} {d n r : Nat}, bound y d n = some r → ∀ z, y = some z → known z = true := by
    intro y d n r hb z hz
    subst hz
    unfold bound at hb
    split at hb
    · cases ‹some z = none›
    · rename_i heq; cases heq; rfl
    · cases hb
  simp only [sliceA] at h
  split at h
  · cases h
  rename_i hmx
  have hmx' : mx = none := by simpa using hmx
  simp only [Option.bind_eq_bind, Option.bind_eq_some_iff] at h
  obtain ⟨d, hd, h⟩ := h
  split at h <;> try (cases h; done)
  all_goals
    simp only [Option.bind_eq_some_iff] at h
    obtain ⟨hh, h1, l, h2, h⟩ := h
    exact ⟨rfl, hb h2, hb h1, hmx'⟩

theorem binOpA_known {op : BinOp} {t : TypeId} {lit : Bool} {x y v : Value} (h : binOpA Z op t lit x y = some v) : known x = true ∧ known y = true := by
  simp only [binOpA] at h
  split at h
  · rename_i hc
    simp only [Bool.and_eq_true] at hc
    obtain ⟨⟨⟨hx, hy⟩, _⟩, _⟩ := hc
    constructor
    · cases x <;> first | rfl | (simp [scalar] at hx; done)
    · cases y <;> first | rfl | (simp [scalar] at hy; done)
  · split at h <;> first
      | exact ⟨rfl, rfl⟩
      | (cases h; done)
      | (split at h <;> first | exact ⟨rfl, by assumption⟩ | (cases h; done))
theorem slice3A_known {t : TypeId} {x v : Value} {lo hi mx : Option Value} (h : slice3A Z H t x lo hi mx = some v) : known x = true ∧ (∀ y, lo = some y → known y = true) ∧ (∀ y, hi = some y → known y = true) ∧ ∀ y, mx = some y → known y = true := by
  have hb : ∀ {y : Option Value} {d n r : Nat}, bound y d n = some r → ∀ z, y = some z → known z = true := by
    intro y d n r hb z hz
    subst hz
    unfold bound at hb
    split at hb
    · cases ‹some z = none›
    · rename_i heq; cases heq; rfl
    · cases hb
  simp only [slice3A, Option.bind_eq_bind, Option.bind_eq_some_iff] at h
  obtain ⟨d, hd, h⟩ := h
  split at h <;> try (cases h; done)
  split at h <;> try (cases h; done)
  simp only [Option.bind_eq_some_iff] at h
  obtain ⟨o, ho, h⟩ := h
  split at h <;> try (cases h; done)
  split at h <;> try (cases h; done)
  simp only [Option.bind_eq_some_iff] at h
  obtain ⟨i, hi', h⟩ := h
  split at h <;> try (cases h; done)
  split at h <;> try (cases h; done)
  simp only [Option.bind_eq_some_iff] at h
  obtain ⟨m, h1, hh, h2, l, h3, h⟩ := h
  exact ⟨rfl, hb h3, hb h2, hb h1⟩
theorem plain_known {n : Nat} {v : Value} (h : plain n v = true) : known v = true := by
  cases v with
  | chan r => cases r with
    | none => rfl
    | some r => cases n <;> simp [plain] at h
  | _ => rfl
theorem lookupA_known {t : TypeId} {x ix v : Value} {ok : Bool} (h : lookupA Z H t x ix ok = some v) : known ix = true := by
  simp only [lookupA, Option.bind_eq_bind, Option.bind_eq_some_iff] at h
  obtain ⟨d, hd, h⟩ := h
  split at h <;> try (cases h; done)
  split at h <;> try (cases h; done)
  rename_i hk
  simp only [Bool.not_eq_true', Bool.not_eq_false, Bool.and_eq_true] at hk
  exact plain_known hk.2
theorem mapAtA_known {t : TypeId} {m k : Value} {r : Nat × List MapEntry × Nat × TypeId × Option (Nat × Value)} (h : mapAtA Z H t m k = some r) : known m = true ∧ known k = true := by
  simp only [mapAtA, Option.bind_eq_bind, Option.bind_eq_some_iff] at h
  obtain ⟨d, hd, h⟩ := h
  split at h <;> try (cases h; done)
  split at h <;> try (cases h; done)
  rename_i hk
  simp only [Bool.not_eq_true', Bool.not_eq_false, Bool.and_eq_true] at hk
  split at h <;> try (cases h; done)
  exact ⟨rfl, plain_known hk.2⟩
theorem entryStoreA_known {m st v : Value} {d : Delta} (h : entryStoreA Z H m st v = some d) : known m = true ∧ known st = true := by
  simp only [entryStoreA] at h
  split at h <;> try (cases h; done)
  split at h <;> try (cases h; done)
  simp only [Option.bind_eq_bind, Option.bind_eq_some_iff] at h
  obtain ⟨o, ho, h⟩ := h
  split at h <;> try (cases h; done)
  split at h <;> try (cases h; done)
  exact ⟨rfl, rfl⟩

theorem doOp_sound (hZ : TOk Z p) (hR : Rel p e H w) (hs : H.next + 2 < 2 ^ 40) {K : Operand → Bool} {ρ ρ' : Operand → Value} (hE : ERel K e H.D ρ ρ') {o : Oper} (hok : ∀ x ∈ o.op.operands.toList, K x = true)
    {out : Out} (h : doOp Z ρ H o = some out) : OutRel Z p e H w (execOp ρ' o) out := by
  unfold doOp at h
  unfold execOp
  cases ho : o.op with
  | move x =>
    simp only [ho] at h ⊢ hok
    split at h <;> try (cases h; done)
    rename_i hk
    cases h
    have hx := hE x (hok x (by simp [Op.operands])) hk
    exact OutRel.same hR (by simp [hx.1]) hx.2
  | assign x =>
    simp only [ho] at h ⊢ hok
    split at h <;> try (cases h; done)
    rename_i hk
    cases h
    have hx := hE x (hok x (by simp [Op.operands])) hk
    exact OutRel.same hR (by simp [hx.1]) hx.2
  | pick c a b =>
    simp only [ho] at h ⊢ hok
    split at h <;> try (cases h; done)
    rename_i t hc
    have hcc := hE.at' (hok c (by simp [Op.operands])) hc rfl
    cases t with
    | true =>
      simp only [cond] at h
      split at h <;> try (cases h; done)
      rename_i hk
      cases h
      have hx := hE a (hok a (by simp [Op.operands])) hk
      exact OutRel.same hR (by simp [hcc.1, asBool, hx.1]) hx.2
    | false =>
      simp only [cond] at h
      split at h <;> try (cases h; done)
      rename_i hk
      cases h
      have hx := hE b (hok b (by simp [Op.operands])) hk
      exact OutRel.same hR (by simp [hcc.1, asBool, hx.1]) hx.2
  | alloc el =>
    simp only [ho, Option.bind_eq_bind, Option.bind_eq_some_iff] at h ⊢
    obtain ⟨i, hi, z, hz, h⟩ := h
    split at h <;> try (cases h; done)
    rename_i hp
    cases h
    have hu : ∀ v ∈ z.cells.toList, Und H.D v := und_plain_cells hp
    refine ⟨_, _, .inl ?_, Step.row hR (el := el) hu hs, und_ptr hR.newD⟩
    rw [plain_cells hp]
    simp [Instr.alloc, r_zero (hZ.info _ _ hi) hz, newVar, run_newRow, Env.addr, hR.shiftN hR.nxt, Nat.add_zero]
  | box el x =>
    simp only [ho] at h ⊢ hok
    split at h
    · cases h
    rename_i hk
    cases h
    have hx := hE x (hok x (by simp [Op.operands])) (by simpa using hk)
    refine ⟨_, _, .inl ?_, Step.row hR (el := el) (und_cells hx.2) hs, und_ptr hR.newD⟩
    rw [hx.1]
    simp only [Instr.box, newVar, Sem.run_bind, run_newRow, Result.andThen_ok, Sem.run_pure, cells_ren, ren_ptr, Env.addr, hR.shiftN hR.nxt, Nat.add_zero, Env.more_ρ, arr_list]
  | build t parts =>
    simp only [ho] at h ⊢ hok
    split at h
    · cases h
    rename_i hk
    simp only [Option.map_eq_some_iff] at h
    obtain ⟨v, hv, rfl⟩ := h
    have hk' : ∀ x ∈ parts.toList, known (ρ x.2) = true := all_of_not hk
    have hx : ∀ x ∈ parts.toList, ρ' x.2 = ren e (ρ x.2) ∧ Und H.D (ρ x.2) := fun x hx => hE x.2 (hok x.2 (by simp [Op.operands]; exact ⟨x.1, by simpa using hx⟩)) (hk' x hx)
    have heq : (parts.map fun (i, x) => (i, ρ' x)) = (parts.map fun x => (x.1, ρ x.2)).map fun x => (x.1, ren e x.2) := by
      rw [Array.map_map]
      exact Array.map_congr_left fun x hxm => by simp [(hx x (by simpa using hxm)).1]
    have hb := buildA_sound (e := e) (w := w) hZ (parts := parts.map fun x => (x.1, ρ x.2)) (by simpa using hv) (by
      intro y hy
      simp only [Array.toList_map, List.mem_map] at hy
      obtain ⟨x, hxm, rfl⟩ := hy
      exact (hx x hxm).2)
    exact OutRel.same hR (by rw [heq]; simp only [Sem.run_bind, hb.1, Result.andThen_ok, Sem.run_pure]) hb.2
  | buildSlice t len parts =>
    simp only [ho] at h ⊢ hok
    split at h
    · cases h
    rename_i hk
    simp only [Option.map_eq_some_iff] at h
    obtain ⟨⟨v, d⟩, hv, rfl⟩ := h
    have hk' : ∀ x ∈ parts.toList, known (ρ x.2) = true := all_of_not hk
    have hx : ∀ x ∈ parts.toList, ρ' x.2 = ren e (ρ x.2) ∧ Und H.D (ρ x.2) := fun x hx => hE x.2 (hok x.2 (by simp [Op.operands]; exact ⟨x.1, by simpa using hx⟩)) (hk' x hx)
    have heq : (parts.map fun (i, x) => (i, ρ' x)) = (parts.map fun x => (x.1, ρ x.2)).map fun x => (x.1, ren e x.2) := by
      rw [Array.map_map]
      exact Array.map_congr_left fun x hxm => by simp [(hx x (by simpa using hxm)).1]
    obtain ⟨e', w', hrun, hstep, hu⟩ := buildSliceA_sound hZ hR hs (parts := parts.map fun x => (x.1, ρ x.2)) (by simpa using hv) (by
      intro y hy
      simp only [Array.toList_map, List.mem_map] at hy
      obtain ⟨x, hxm, rfl⟩ := hy
      exact (hx x hxm).2)
    exact ⟨e', w', .inl (by rw [heq]; simp only [Sem.run_bind, hrun, Result.andThen_ok, Sem.run_pure]), hstep, hu⟩
  | load t a =>
    simp only [ho] at h ⊢ hok
    split at h <;> try (cases h; done)
    rename_i ad ha
    simp only [Option.map_eq_some_iff] at h
    obtain ⟨v, hv, rfl⟩ := h
    have hx := hE.at' (hok a (by simp [Op.operands])) ha rfl
    obtain ⟨hr, hu⟩ := loadV_sound hZ hR hv
    exact OutRel.same hR (by simp [Instr.loadAt, hx.1, Instr.sureAddr, hr]) hu
  | store t a x =>
    simp only [ho] at h ⊢ hok
    split at h <;> try (cases h; done)
    rename_i ad ha
    split at h
    · cases h
    rename_i hk
    simp only [Option.map_eq_some_iff] at h
    obtain ⟨d, hd, rfl⟩ := h
    have hx := hE.at' (hok a (by simp [Op.operands])) ha rfl
    have hy := hE x (hok x (by simp [Op.operands])) (by simpa using hk)
    obtain ⟨w', hr, hstep⟩ := storeV_sound hZ hR hd hy.2
    exact ⟨e, w', .inr ⟨by simp [Instr.storeAt, hx.1, hy.1, Instr.sureAddr, hr], rfl⟩, hstep, und_undef⟩
  | nilCheck x =>
    simp only [ho] at h ⊢ hok
    split at h <;> try (cases h; done)
    · rename_i a ha
      cases h
      have hx := hE.at' (hok x (by simp [Op.operands])) ha rfl
      exact OutRel.same hR (by simp [hx.1]) hx.2
    · rename_i t v ha
      cases h
      have hx := hE.at' (hok x (by simp [Op.operands])) ha rfl
      exact OutRel.same hR (by simp [hx.1]) hx.2
    · rename_i f a b ha
      cases h
      have hx := hE.at' (hok x (by simp [Op.operands])) ha rfl
      exact OutRel.same hR (by simp [hx.1, renFn]) hx.2
    · rename_i t n a b ha
      cases h
      have hx := hE.at' (hok x (by simp [Op.operands])) ha rfl
      exact OutRel.same hR (by simp [hx.1, renFn]) hx.2
    · rename_i t pt f q a b ha
      cases h
      have hx := hE.at' (hok x (by simp [Op.operands])) ha rfl
      exact OutRel.same hR (by simp [hx.1, renFn]) hx.2
    · rename_i l a b ha
      cases h
      have hx := hE.at' (hok x (by simp [Op.operands])) ha rfl
      exact OutRel.same hR (by simp [hx.1, renFn]) hx.2
  | binOp op t x y yt =>
    simp only [ho] at h ⊢ hok
    simp only [Option.map_eq_some_iff] at h
    obtain ⟨v, hv, rfl⟩ := h
    have hkx := binOpA_known hv
    have hx := hE x (hok x (by simp [Op.operands])) hkx.1
    have hy := hE y (hok y (by simp [Op.operands])) hkx.2
    obtain ⟨hr, hsc⟩ := binOpA_sound (e := e) (w := w) hZ hv rfl
    refine OutRel.same hR ?_ (und_scalar hsc)
    rw [hx.1, hy.1, ren_scalar hsc]
    simp only [Sem.run_bind] at hr ⊢
    rw [hr]
    rfl
  | unOp op t x =>
    simp only [ho] at h ⊢ hok
    simp only [Option.bind_eq_some_iff] at h
    obtain ⟨v, hv, h⟩ := h
    split at h <;> try (cases h; done)
    rename_i hsx
    cases h
    have hx := hE x (hok x (by simp [Op.operands])) (by cases hx : ρ x <;> simp_all [scalar, known])
    obtain ⟨hr, hsc⟩ := pureOf_run (P := p.P) hv w
    refine OutRel.same hR ?_ (und_scalar hsc)
    rw [hx.1, ren_scalar hsx, ren_scalar hsc]
    simp [hr]
  | convert s d x =>
    simp only [ho] at h ⊢ hok
    have hkx : known (ρ x) = true := by
      cases hx : ρ x <;> simp only [known]
      rename_i r
      cases r with
      | none => rfl
      | some r =>
        simp only [hx, toBytesA, convertA, Option.bind_eq_bind, Option.map_eq_some_iff, Option.bind_eq_some_iff] at h
        obtain ⟨_, ⟨d1, _, d2, _, h⟩, _⟩ := h
        cases h
    have hx := hE x (hok x (by simp [Op.operands])) hkx
    split at h
    · rename_i r hr
      cases h
      obtain ⟨v, d'⟩ := r
      obtain ⟨e', w', hrun, hstep, hu⟩ := toBytesA_sound hZ hR hs hr
      exact ⟨e', w', .inl (by simp [hx.1, hrun]), hstep, hu⟩
    · simp only [Option.map_eq_some_iff] at h
      obtain ⟨v, hv, rfl⟩ := h
      obtain ⟨hr, hu⟩ := convertA_sound hZ hR hv hx.2
      exact OutRel.same hR (by simp [hx.1, hr]) hu
  | makeInterface t x =>
    simp only [ho] at h ⊢ hok
    split at h <;> try (cases h; done)
    rename_i d hni hd
    split at h
    · cases h
    rename_i hk
    cases h
    have hx := hE x (hok x (by simp [Op.operands])) (by simpa using hk)
    have hud := hZ.und _ _ hd
    refine OutRel.same hR ?_ (und_iface hx.2)
    simp only [Instr.makeInterface, Sem.run_bind, r_und hud, Result.andThen_ok, hx.1]
    cases d <;> first | exact (hni _ rfl).elim | simp
  | makeFunc fn first cap =>
    simp only [ho] at h ⊢ hok
    split at h <;> try (cases h; done)
    rename_i hny
    split at h
    · cases h
    rename_i hk
    cases h
    simp only [Bool.or_eq_true, Bool.not_eq_true', not_or, Bool.not_eq_false, List.all_eq_true] at hk
    obtain ⟨a1, u1⟩ := hE.arr (xs := first) (fun x hx => hok x (by simp [Op.operands]; exact .inl (by simpa using hx))) hk.1
    obtain ⟨a2, u2⟩ := hE.arr (xs := cap) (fun x hx => hok x (by simp [Op.operands]; exact .inr (by simpa using hx))) hk.2
    have hfn : ∀ e : Env, renFn e fn = fn := fun e => by cases fn <;> first | rfl | exact (hny _ rfl).elim
    exact OutRel.same hR (by simp [Instr.makeFunc, a1, a2, hfn]) (und_func (fun e e' _ => by rw [hfn, hfn]) u1 u2)
  | makeSlice t l c =>
    simp only [ho] at h ⊢ hok
    simp only [Option.map_eq_some_iff] at h
    obtain ⟨⟨v, d⟩, hv, rfl⟩ := h
    have hkx : known (ρ l) = true ∧ known (ρ c) = true := by
      exact makeSliceA_known hv
    have hx := hE l (hok l (by simp [Op.operands])) hkx.1
    have hy := hE c (hok c (by simp [Op.operands])) hkx.2
    obtain ⟨e', w', hrun, hstep, hu⟩ := makeSliceA_sound (e := e) hZ hR hs hv
    exact ⟨e', w', .inl (by simp [hx.1, hy.1, hrun]), hstep, hu⟩
  | slice t x lo hi mx =>
    simp only [ho] at h ⊢ hok
    cases mx with
    | none =>
      simp only [Option.map_eq_some_iff] at h
      obtain ⟨v, hv, rfl⟩ := h
      obtain ⟨k1, k2, k3, _⟩ := sliceA_known hv
      have hx := hE x (hok x (by simp [Op.operands])) k1
      have hlo : lo.map ρ' = (lo.map ρ).map (ren e) := by
        cases lo with
        | none => rfl
        | some y => simp [(hE y (hok y (by simp [Op.operands])) (k2 _ rfl)).1]
      have hhi : hi.map ρ' = (hi.map ρ).map (ren e) := by
        cases hi with
        | none => rfl
        | some y => simp [(hE y (hok y (by simp [Op.operands])) (k3 _ rfl)).1]
      obtain ⟨hr, hu⟩ := sliceA_sound hZ hR hv hx.2
      refine OutRel.same hR ?_ hu
      rw [hx.1, hlo, hhi]
      simp only [Option.map_none] at hr ⊢
      simp only [Sem.run_bind, hr, Result.andThen_ok, Sem.run_pure]
    | some mx =>
      cases hi with
      | none => cases h
      | some hi =>
        simp only [Option.map_eq_some_iff] at h
        obtain ⟨v, hv, rfl⟩ := h
        obtain ⟨k1, k2, k3, k4⟩ := slice3A_known hv
        have hx := hE x (hok x (by simp [Op.operands])) k1
        have hlo : lo.map ρ' = (lo.map ρ).map (ren e) := by
          cases lo with
          | none => rfl
          | some y => simp [(hE y (hok y (by simp [Op.operands])) (k2 _ rfl)).1]
        have hhi := (hE hi (hok hi (by simp [Op.operands])) (k3 _ rfl)).1
        have hmx := (hE mx (hok mx (by simp [Op.operands])) (k4 _ rfl)).1
        obtain ⟨hr, hu⟩ := slice3A_sound hZ hR hv hx.2
        refine OutRel.same hR ?_ hu
        simp only [Option.map_some] at hr ⊢
        rw [hx.1, hlo, hhi, hmx]
        simp only [Sem.run_bind, hr, Result.andThen_ok, Sem.run_pure]
  | makeMap t r =>
    simp only [ho] at h ⊢ hok
    have hnew : Step p e H w (e.more H.next w.heap.size 0) (H.new (.map [] 0)) (w.alloc (.map #[] 0)) :=
      Step.alloc hR _ _ 0 (fun x hx => by cases hx) rfl hs
    have hval : ∀ (s : Sem Next), s.run p.P w = .ok (.value (.map (some w.heap.size))) (w.alloc (.map #[] 0)) → OutRel Z p e H w s (.val (.map (some H.next)) (.new (.map [] 0))) := by
      intro s hsr
      refine ⟨_, _, .inl ?_, hnew, ?_⟩
      · rw [hsr]; simp
      · intro e1 e2 ha
        have := (ha H.next hR.newD).1
        simp [this]
    split at h <;> try (cases h; done)
    · rename_i hu hr
      cases h
      refine hval _ ?_
      have : r = none := by cases r <;> simp_all
      subst this
      simp only [Option.map_none, Instr.makeMap, Sem.run_bind, Sem.run_pure, run_newObj_alloc, Result.andThen_ok]
    · rename_i hu hr
      cases h
      refine hval _ ?_
      cases r with
      | none => simp at hr
      | some r =>
        simp only [Option.map_some, Option.some.injEq] at hr
        have hx := hE.at' (hok r (by simp [Op.operands])) hr rfl
        simp only [Option.map_some, Instr.makeMap, hx.1, ren_int, r_und (hZ.und _ _ hu), asInt, asIntOf, Sem.run_bind, Sem.run_pure, run_newObj_alloc, Result.andThen_ok]
  | lookup t x ix ok =>
    simp only [ho] at h ⊢ hok
    split at h <;> try (cases h; done)
    rename_i hk
    simp only [Option.map_eq_some_iff] at h
    obtain ⟨v, hv, rfl⟩ := h
    have hx := hE x (hok x (by simp [Op.operands])) hk
    have hy := hE ix (hok ix (by simp [Op.operands])) (lookupA_known hv)
    obtain ⟨hr, hu⟩ := lookupA_sound (e := e) (w := w) hZ hR hv
    exact OutRel.same hR (by rw [hx.1, hy.1]; simp only [Sem.run_bind, hr, Result.andThen_ok, Sem.run_pure]) hu
  | mapUpdate t m k x =>
    simp only [ho] at h ⊢ hok
    split at h <;> try (cases h; done)
    rename_i hk
    simp only [Option.map_eq_some_iff] at h
    obtain ⟨d, hd, rfl⟩ := h
    have hkk : known (ρ m) = true ∧ known (ρ k) = true := by
      simp only [mapUpdateA, Option.bind_eq_bind, Option.bind_eq_some_iff] at hd
      obtain ⟨r, hr, _⟩ := hd
      exact mapAtA_known hr
    have hm := hE m (hok m (by simp [Op.operands])) hkk.1
    have hkey := hE k (hok k (by simp [Op.operands])) hkk.2
    have hx := hE x (hok x (by simp [Op.operands])) hk
    obtain ⟨w', hr, hstep⟩ := mapUpdateA_sound hZ hR hd hx.2
    exact ⟨e, w', .inr ⟨by simp [hm.1, hkey.1, hx.1, hr], rfl⟩, hstep, und_undef⟩
  | insert t m k x =>
    simp only [ho] at h ⊢ hok
    split at h <;> try (cases h; done)
    rename_i hk
    simp only [Option.map_eq_some_iff] at h
    obtain ⟨d, hd, rfl⟩ := h
    have hkk : known (ρ m) = true ∧ known (ρ k) = true := by
      simp only [mapUpdateA, Option.bind_eq_bind, Option.bind_eq_some_iff] at hd
      obtain ⟨r, hr, _⟩ := hd
      exact mapAtA_known hr
    have hm := hE m (hok m (by simp [Op.operands])) hkk.1
    have hkey := hE k (hok k (by simp [Op.operands])) hkk.2
    have hx := hE x (hok x (by simp [Op.operands])) hk
    obtain ⟨w', hr, hstep⟩ := mapUpdateA_sound hZ hR hd hx.2
    exact ⟨e, w', .inr ⟨by simp [hm.1, hkey.1, hx.1, hr], rfl⟩, hstep, und_undef⟩
  | mapEntry t m k =>
    simp only [ho] at h ⊢ hok
    simp only [Option.map_eq_some_iff] at h
    obtain ⟨⟨v, d⟩, hd, rfl⟩ := h
    have hkk : known (ρ m) = true ∧ known (ρ k) = true := by
      simp only [mapEntryA, Option.bind_eq_bind, Option.bind_eq_some_iff] at hd
      obtain ⟨r, hr, _⟩ := hd
      exact mapAtA_known hr
    have hm := hE m (hok m (by simp [Op.operands])) hkk.1
    have hkey := hE k (hok k (by simp [Op.operands])) hkk.2
    obtain ⟨w', hr, hstep, hu⟩ := mapEntryA_sound (e := e) (w := w) hZ hR hd
    exact ⟨e, w', .inl (by simp [hm.1, hkey.1, hr]), hstep, hu⟩
  | entryStore t m st x =>
    simp only [ho] at h ⊢ hok
    split at h <;> try (cases h; done)
    rename_i hk
    simp only [Option.map_eq_some_iff] at h
    obtain ⟨d, hd, rfl⟩ := h
    have hkk := entryStoreA_known hd
    have hm := hE m (hok m (by simp [Op.operands])) hkk.1
    have hst := hE st (hok st (by simp [Op.operands])) hkk.2
    have hx := hE x (hok x (by simp [Op.operands])) hk
    obtain ⟨w', hr, hstep⟩ := entryStoreA_sound (t := t) hZ hR hd hx.2
    exact ⟨e, w', .inr ⟨by simp [hm.1, hst.1, hx.1, hr], rfl⟩, hstep, und_undef⟩
  | typeAssert x xt a ok =>
    simp only [ho] at h ⊢ hok
    split at h <;> try (cases h; done)
    rename_i hk
    simp only [Option.map_eq_some_iff] at h
    obtain ⟨v, hv, rfl⟩ := h
    have hx := hE x (hok x (by simp [Op.operands])) hk
    obtain ⟨hr, hu⟩ := typeAssertA_sound (xt := xt) (e := e) (w := w) hZ hv hx.2
    exact OutRel.same hR (by rw [hx.1]; simp only [Sem.run_bind, hr, Result.andThen_ok, Sem.run_pure]) hu
  | fieldAddr t x f =>
    simp only [ho] at h ⊢ hok
    simp only [Option.map_eq_some_iff] at h
    obtain ⟨v, hv, rfl⟩ := h
    have hk : known (ρ x) = true := by
      cases hx : ρ x <;> first | rfl | skip
      simp only [fieldAddrA, hx, Option.bind_eq_bind, Option.bind_eq_some_iff] at hv
      obtain ⟨d, _, hv⟩ := hv
      split at hv <;> try (cases hv; done)
      simp only [Option.bind_eq_some_iff] at hv
      obtain ⟨_, _, _, _, hv⟩ := hv
      cases hv
    have hx := hE x (hok x (by simp [Op.operands])) hk
    obtain ⟨hr, hu⟩ := fieldAddrA_sound (e := e) (w := w) hZ hv hx.2
    exact OutRel.same hR (by rw [hx.1]; simp only [Sem.run_bind, hr, Result.andThen_ok, Sem.run_pure]) hu
  | field t x f =>
    simp only [ho] at h ⊢ hok
    simp only [Option.map_eq_some_iff] at h
    obtain ⟨v, hv, rfl⟩ := h
    have hk : known (ρ x) = true := by
      cases hx : ρ x <;> first | rfl | skip
      simp only [fieldA, hx, Option.bind_eq_bind, Option.bind_eq_some_iff] at hv
      obtain ⟨d, _, hv⟩ := hv
      split at hv <;> try (cases hv; done)
      simp only [Option.bind_eq_some_iff] at hv
      obtain ⟨_, _, hv⟩ := hv
      cases hv
    have hx := hE x (hok x (by simp [Op.operands])) hk
    obtain ⟨hr, hu⟩ := fieldA_sound (e := e) (w := w) hZ hv hx.2
    exact OutRel.same hR (by rw [hx.1]; simp only [Sem.run_bind, hr, Result.andThen_ok, Sem.run_pure]) hu
  | indexAddr t x i =>
    simp only [ho] at h ⊢ hok
    simp only [Option.map_eq_some_iff] at h
    obtain ⟨v, hv, rfl⟩ := h
    have hki : known (ρ i) = true := by
      simp only [indexAddrA] at hv
      split at hv <;> try (cases hv; done)
      rename_i heq; rw [heq]; rfl
    have hk : known (ρ x) = true := by
      cases hx : ρ x <;> first | rfl | skip
      simp only [indexAddrA, hx] at hv
      split at hv <;> try (cases hv; done)
      simp only [Option.bind_eq_bind, Option.bind_eq_some_iff] at hv
      obtain ⟨d, _, hv⟩ := hv
      first | (cases hv; done) | (split at hv <;> cases hv)
    have hx := hE x (hok x (by simp [Op.operands])) hk
    have hy := hE i (hok i (by simp [Op.operands])) hki
    obtain ⟨hr, hu⟩ := indexAddrA_sound (e := e) (w := w) hZ hv hx.2
    exact OutRel.same hR (by rw [hx.1, hy.1]; simp only [Sem.run_bind, hr, Result.andThen_ok, Sem.run_pure]) hu
  | index t x i =>
    simp only [ho] at h ⊢ hok
    simp only [Option.map_eq_some_iff] at h
    obtain ⟨v, hv, rfl⟩ := h
    have hki : known (ρ i) = true := by
      simp only [indexA] at hv
      split at hv <;> try (cases hv; done)
      rename_i heq; rw [heq]; rfl
    have hk : known (ρ x) = true := by
      cases hx : ρ x <;> first | rfl | skip
      simp only [indexA, hx] at hv
      split at hv <;> try (cases hv; done)
      simp only [Option.bind_eq_bind, Option.bind_eq_some_iff] at hv
      obtain ⟨d, _, hv⟩ := hv
      first | (cases hv; done) | (split at hv <;> cases hv)
    have hx := hE x (hok x (by simp [Op.operands])) hk
    have hy := hE i (hok i (by simp [Op.operands])) hki
    obtain ⟨hr, hu⟩ := indexA_sound (e := e) (w := w) hZ hv hx.2
    exact OutRel.same hR (by rw [hx.1, hy.1]; simp only [Sem.run_bind, hr, Result.andThen_ok, Sem.run_pure]) hu
  | extract t i =>
    simp only [ho] at h ⊢ hok
    split at h <;> try (cases h; done)
    rename_i vs ha
    simp only [Option.map_eq_some_iff] at h
    obtain ⟨v, hv, rfl⟩ := h
    have hx := hE.at' (hok t (by simp [Op.operands])) ha rfl
    refine OutRel.same hR ?_ (und_tuple_inv hx.2 v (Array.mem_of_getElem? hv))
    rw [hx.1]
    simp [Instr.extract, hv]
  | call c =>
    simp only [ho, Option.bind_eq_bind, Option.bind_eq_some_iff] at h ⊢ hok
    obtain ⟨d, hd, h⟩ := h
    obtain ⟨hr, hu1, hu2, hu3⟩ := resolveA_sound (p := p) (w := w) hE hd (by simpa [Op.operands] using hok)
    have := invokeA_sound hZ hR hs h hu1 (by simpa using hu2)
    refine this.of_run ?_
    simp only [Sem.run_bind, hr, Result.andThen_ok, renD]
    rw [arr_list]
  | defer c =>
    simp only [ho] at h ⊢ hok
    simp only [Option.map_eq_some_iff] at h
    obtain ⟨d, hd, rfl⟩ := h
    obtain ⟨hr, hu1, hu2, hu3⟩ := resolveA_sound (p := p) (w := w) hE hd (by simpa [Op.operands] using hok)
    refine ⟨by simp only [Sem.run_bind, hr, Result.andThen_ok, Sem.run_pure], fun e1 e2 ha => ?_⟩
    simp only [renD, hu3 e1 e2 ha, und_arr hu2 ha]
  | panic x =>
    simp only [ho] at h ⊢ hok
    split at h <;> try (cases h; done)
    rename_i t v ha
    cases h
    have hx := hE.at' (hok x (by simp [Op.operands])) ha rfl
    refine ⟨?_, hx.2⟩
    rw [hx.1]
    simp [Instr.panic]
  | _ => simp only [ho] at h; cases h
end Go.Eng

namespace Go.Eng
variable [Shift]
variable {p : Par} {e e' e'' : Env} {H H' : Heap} {w w' w'' : World} {Z : Tab}

/-- The widest fence, for frames of functions (none) and of rounds. -/
def FR (r : Option Nat) : Fence := { fn := fun _ => True, depth := none, alive := false, round := r }
theorem FR_fn (r : Option Nat) (f : FuncId) : (FR r).fn f := trivial
theorem FR_depth (r : Option Nat) : (FR r).depth = none := rfl

structure SRel (p : Par) (e : Env) (nt : Nat) (s : St) (a : Act) (w : World) : Prop where
  rel : Rel p e s.h w
  tmps : TRel e nt s.T a.tmps
  tund : TUnd s.h.D s.T
  defs : a.defers = s.ds.map (renD e)
  dund : ∀ d ∈ s.ds, DUnd s.h.D d

theorem dmap_eq {n : Nat → Prop} {ds : List Deferred} (h : ∀ d ∈ ds, DUnd n d) (ha : Agree n e e') : ds.map (renD e) = ds.map (renD e') := List.map_congr_left fun d hd => h d hd _ _ ha

/-- The same frame over what has become of memory. -/
theorem SRel.step {nt : Nat} {s : St} {a : Act} (h : SRel p e nt s a w) {h' : Heap} (hs : Step p e s.h w e' h' w') : SRel p e' nt ⟨s.T, h', s.ds⟩ a w' :=
  ⟨hs.rel, h.tmps.agree h.tund hs.agree, h.tund.mono hs.sub, h.defs.trans (dmap_eq h.dund hs.agree), fun d hd => (h.dund d hd).mono hs.sub⟩

theorem SRel.put {nt : Nat} {s : St} {a : Act} (h : SRel p e nt s a w) (hnt : nt ≤ 2 ^ 30) {o : Oper} {G : Nat} (hok : opOk G nt o = true) {v : Value} (hv : Und s.h.D v) :
    SRel p e nt ⟨putA s.T o.dst v, s.h, s.ds⟩ (a.put o.dst (ren e v)) w := by
  cases hd : o.dst with
  | none => exact h
  | some d =>
    have hdn : d < nt := by
      simp only [opOk, hd, Bool.and_eq_true] at hok
      exact Nat.blt_eq.mp hok.1
    have hget : ∀ t, (s.T.set d (some v)).get t = if t = d then some v else s.T.get t := fun t => Tr.get_set _ _ _ _ (by have : @LT.lt Nat _ d nt := hdn; omega)
    refine ⟨h.rel, ⟨?_, ?_⟩, ?_, h.defs, h.dund⟩
    · simp [Act.put, h.tmps.1]
    · intro t u hu
      simp only [putA, hget] at hu
      simp only [Act.put]
      by_cases ht : t = d
      · subst ht
        rw [if_pos rfl] at hu
        cases hu
        simp [h.tmps.1, hdn]
      · rw [if_neg ht] at hu
        rw [Array.getElem?_setIfInBounds_ne (Ne.symm ht)]
        exact h.tmps.2 t u hu
    · intro t u hu
      simp only [putA, hget] at hu
      by_cases ht : t = d
      · rw [if_pos ht] at hu; cases hu; exact hv
      · rw [if_neg ht] at hu; exact h.tund t u hu

theorem SRel.erel {nt : Nat} {s : St} {a : Act} (h : SRel p e nt s a w) : ERel (operandOk p.G) e s.h.D (ev s.T) a.eval := by
  intro x hx hk
  cases x with
  | tmp t =>
    simp only [ev] at hk ⊢
    cases ht : s.T.get t with
    | none => rw [ht] at hk; simp [unknown, known] at hk
    | some v =>
      simp only [Option.getD_some]
      have := h.tmps.2 t v ht
      refine ⟨?_, h.tund t v ht⟩
      simp [Act.eval, this]
  | const v =>
    simp only [operandOk] at hx
    exact ⟨by simp only [Act.eval, ev]; rw [ren_plain 3 v hx], und_plain hx⟩
  | global g =>
    simp only [operandOk, Nat.blt_eq] at hx
    have h1 := h.rel.glo g hx
    have h2 := h.rel.gn
    have h3 := h.rel.nxt
    exact ⟨by simp [Act.eval, ev, Env.addr, h1.1, h.rel.shiftG hx], und_ptr (h.rel.gloD hx)⟩
  | func f => exact ⟨by simp [Act.eval, ev, renFn], und_func (fun _ _ _ => rfl) (by simp) (by simp)⟩

theorem ren_bool_inv {v : Value} {b : Bool} (h : ren e v = .bool b) : v = .bool b := by
  cases v with
  | bool c => simpa using h
  | pointer a => cases a <;> simp at h
  | slice a l c => cases a <;> simp at h
  | map r => cases r <;> simp at h
  | chan r => cases r <;> simp at h
  | _ => simp at h

theorem wantedA_sound {nt : Nat} {s : St} {a : Act} (h : SRel p e nt s a w) {o : Oper} {ops : Array Oper} {b : Bool} (hw : wantedA o ops s.T = some b) : Region.wanted o (yielded ops a.tmps) = b := by
  simp only [wantedA] at hw
  simp only [Region.wanted]
  split at hw
  · rename_i hg; rw [hg]; cases hw; rfl
  · rename_i j want hg
    rw [hg]
    simp only
    split at hw
    · cases hw
    · rename_i d hd
      simp only [yielded, hd, Option.bind_some]
      split at hw
      · rename_i c hc
        cases hw
        have := h.tmps.2 d _ hc
        simp only [ren_bool] at this
        rw [this]
        cases c <;> cases want <;> rfl
      · rename_i v hne hv
        cases hw
        have := h.tmps.2 d v hv
        rw [this]
        have : ∀ c, ren e v ≠ .bool c := fun c hc => hne c (ren_bool_inv hc)
        split
        · rename_i c hc
          exact (this c (Option.some.inj hc)).elim
        · rfl
      · cases hw

/-- What the three kinds of calls must come to. -/
structure COk (p : Par) (C : Calls3) : Prop where
  fn : ∀ f args h r h', C.fn f args h = some (r, h') → ∀ (e : Env) (w : World) (n : Nat), Rel p e h w → (∀ a ∈ args, Und h.D a) →
    CallsIn (FR none) n p.P f (args.map (ren e)).toArray w fun en w' => ∃ e', Step p e h w e' h' w' ∧
      match r with
      | .ret v => en = .returned (ren e' v) ∧ Und h'.D v
      | .pan v => en = .panicked [{ v := ren e' v, recovered := false }] ∧ Und h'.D v
  rd : ∀ l args h v h', C.rd l args h = some (v, h') → ∀ (e : Env) (w : World) (n : Nat), Rel p e h w → (∀ a ∈ args, Und h.D a) →
    ∃ f tmps assign body, (Instr.yield (e.ρ l) (args.map (ren e)).toArray).run p.P w = .ok (.round (e.ρ l) f tmps assign body) w ∧
      RoundIn (FR none) n p.P (e.ρ l) f tmps assign body w fun en w' => ∃ e', Step p e h w e' h' w' ∧ en = .returned (ren e' v) ∧ Und h'.D v
  df : ∀ f args m h rec h', C.df f args m h = some (rec, h') → ∀ (e : Env) (w : World) (n : Nat) (u : FrameMode), Rel p e h w → (∀ a ∈ args, Und h.D a) →
    (match m with | none => u = .returning | some v => u = .panicking [{ v := ren e v, recovered := false }] ∧ Und h.D v) →
    CallsDIn (FR none) n p.P f (args.map (ren e)).toArray u w fun en u' w' => ∃ e', Step p e h w e' h' w' ∧ (∃ x, en = .returned x) ∧ settle u' = (if rec then .returning else u) ∧ (rec = true → m.isSome = true)

theorem about_none {o : Oper} {w : World} {a : Act} {r : Option Nat} : ∀ f, o.about p.P w a.eval = some f → (FR r).fn f := fun _ _ => trivial

theorem step1_sound {r : Option Nat} {C : Calls3} {rd : Bool} {nt n : Nat} {ops : Array Oper} {o : Oper} {s s' : St} {ex : Ex} {a : Act} (hZ : TOk Z p) (hC : COk p C) (hrd : rd = r.isSome) (hnt : nt ≤ 2 ^ 30)
    (hS : SRel p e nt s a w) (hok : opOk p.G nt o = true) (h : step1 Z C rd ops o s = some (ex, s')) {next : Act → World → Prop} {Q : Exit → Act → World → Prop}
    (hn : ex = .normal → ∀ e' a' w', Step p e s.h w e' s'.h w' → SRel p e' nt s' a' w' → next a' w')
    (hp : ∀ v, ex = .panic v → ∀ e' w', Step p e s.h w e' s'.h w' → SRel p e' nt s' a w' → Und s'.h.D v → Q (.panic [{ v := ren e' v, recovered := false }]) a w') :
    if Region.wanted o (yielded ops a.tmps) then o.wpIn (FR r) n p.P a w next Q else (∀ f, o.about p.P w a.eval = some f → (FR r).fn f) ∧ next (a.put o.dst undef) w := by
  simp only [step1, St.elimK_eq, doOpF_eq, Option.bind_eq_bind] at h
  split at h
  · cases h
  rename_i hsm
  have hsm' : s.h.next < 1000000000 := by
    cases hb : Nat.blt s.h.next 1000000000 with
    | true => exact Nat.blt_eq.mp hb
    | false => rw [hb] at hsm; exact (hsm rfl).elim
  simp only [Option.bind_eq_some_iff] at h
  obtain ⟨b, hb, h⟩ := h
  rw [wantedA_sound hS hb]
  cases b with
  | false =>
    simp only [Bool.false_eq_true, if_false, putK_eq] at h ⊢
    cases h
    exact ⟨about_none, hn rfl e _ w (Step.refl hS.rel) (by simpa using hS.put hnt hok (v := undef) und_undef)⟩
  | true =>
    simp only [if_true, Option.bind_eq_some_iff] at h ⊢
    obtain ⟨out, hout, h⟩ := h
    have hopn : ∀ x ∈ o.op.operands.toList, operandOk p.G x = true := by
      simp only [opOk, Bool.and_eq_true, List.all_eq_true] at hok
      exact hok.2
    have hsound := doOp_sound hZ hS.rel (by omega) hS.erel hopn hout
    refine ⟨about_none, ?_⟩
    have hsem : (∀ d, out ≠ .defer d) → (o.semAt r a.eval) = execOp a.eval o := by
      intro hnd
      cases r with
      | none => rfl
      | some l =>
        refine Oper.semAt_eq (some l) _ o fun c hc => ?_
        unfold doOp at hout
        simp only [hc] at hout
        simp only [Option.map_eq_some_iff] at hout
        obtain ⟨d, _, rfl⟩ := hout
        exact hnd d rfl
    cases out with
    | val v d =>
      simp only [putK_eq, Heap.appK_eq] at h
      cases h
      rw [show (FR r).round = r from rfl, hsem (fun _ => by simp)]
      obtain ⟨e1, w1, hrun, hstep, hu⟩ := hsound
      have hS1 := (hS.step hstep).put hnt hok hu
      rcases hrun with hrun | ⟨hrun, rfl⟩
      · rw [hrun]
        exact hn rfl e1 _ w1 hstep hS1
      · rw [hrun]
        exact hn rfl e1 _ w1 hstep (by simpa using hS1)
    | enter f args =>
      rw [show (FR r).round = r from rfl, hsem (fun _ => by simp)]
      obtain ⟨hrun, hargs, _⟩ := hsound
      rw [hrun]
      simp only [Option.bind_eq_some_iff] at h
      obtain ⟨⟨res, h1⟩, hcall, h⟩ := h
      refine ⟨fun hd => by simp [FR] at hd, ?_⟩
      have hc := hC.fn f args s.h res h1 hcall e w (n - 1) hS.rel hargs
      refine CallsIn.mono (F := FR none) hc ?_
      rintro en w1 ⟨e1, hstep, hres⟩
      cases res with
      | ret v =>
        obtain ⟨rfl, hu⟩ := hres
        simp only [putK_eq] at h
        cases h
        exact hn rfl e1 _ w1 hstep ((hS.step hstep).put hnt hok hu)
      | pan v =>
        obtain ⟨rfl, hu⟩ := hres
        cases h
        exact hp v rfl e1 w1 hstep (hS.step hstep) hu
    | round l args =>
      rw [show (FR r).round = r from rfl, hsem (fun _ => by simp)]
      obtain ⟨hrun, hargs⟩ := hsound
      simp only [Option.bind_eq_some_iff] at h
      obtain ⟨⟨v, h1⟩, hcall, h⟩ := h
      obtain ⟨f, tmps, assign, body, hy, hround⟩ := hC.rd l args s.h v h1 hcall e w (n - 1) hS.rel hargs
      rw [hrun, hy]
      refine ⟨fun hd => by simp [FR] at hd, ?_⟩
      refine RoundIn.mono (F := FR none) hround ?_
      rintro en w1 ⟨e1, hstep, rfl, hu⟩
      simp only [putK_eq] at h
      cases h
      exact hn rfl e1 _ w1 hstep ((hS.step hstep).put hnt hok hu)
    | defer d =>
      simp only at h
      split at h
      · cases h
      rename_i hrd'
      have hr : r = none := by cases r <;> simp_all
      subst hr
      obtain ⟨hrun, hu⟩ := hsound
      rw [show (FR none).round = none from rfl, Oper.semAt_none, hrun]
      simp only [putK_eq] at h
      cases h
      have h1 : SRel p e nt ⟨s.T, s.h, d :: s.ds⟩ { a with defers := renD e d :: a.defers } w :=
        ⟨hS.rel, hS.tmps, hS.tund, by simp [hS.defs], fun d' hd' => by rcases List.mem_cons.1 hd' with rfl | hd'; exact hu; exact hS.dund d' hd'⟩
      exact hn rfl e _ w (Step.refl hS.rel) (by simpa using h1.put hnt hok (v := undef) und_undef)
    | panic v =>
      rw [show (FR r).round = r from rfl, hsem (fun _ => by simp)]
      obtain ⟨hrun, hu⟩ := hsound
      rw [hrun]
      cases h
      exact hp v rfl e w (Step.refl hS.rel) hS hu
    | recover => cases h

/-- A list of operations, in the order of the text. -/
theorem stepL_sound {r : Option Nat} {C : Calls3} {rd : Bool} {nt n : Nat} {ops : Array Oper} (hZ : TOk Z p) (hC : COk p C) (hrd : rd = r.isSome) (hnt : nt ≤ 2 ^ 30) {Q : Exit → Act → World → Prop} :
    ∀ (l : List Oper) (i : Nat) (s s' : St) (ex : Ex) (a : Act) (e : Env) (w : World), (∀ k, ops[i + k]? = l[k]?) → (∀ o ∈ l, opOk p.G nt o = true) → SRel p e nt s a w → stepL Z C rd ops l s = some (ex, s') →
    (ex = .normal → ∀ e' a' w', Step p e s.h w e' s'.h w' → SRel p e' nt s' a' w' → Q .normal a' w') →
    (∀ v, ex = .panic v → ∀ e' a' w', Step p e s.h w e' s'.h w' → SRel p e' nt s' a' w' → Und s'.h.D v → Q (.panic [{ v := ren e' v, recovered := false }]) a' w') →
    wpOpsIn (FR r) n p.P ops Q (List.range' i l.length) a w
  | [], i, s, s', ex, a, e, w, _, _, hS, h, hn, _ => by
    simp only [stepL] at h
    cases h
    exact hn rfl e a w (Step.refl hS.rel) hS
  | o :: l, i, s, s', ex, a, e, w, hi, hok, hS, h, hn, hp => by
    simp only [List.length_cons, List.range'_succ, wpOpsIn]
    have h0 := hi 0
    simp only [Nat.add_zero, List.getElem?_cons_zero] at h0
    rw [h0]
    simp only [stepL] at h
    cases h1 : step1 Z C rd ops o s with
    | none => rw [h1] at h; cases h
    | some res =>
      obtain ⟨ex1, s1⟩ := res
      rw [h1] at h
      refine step1_sound hZ hC hrd hnt hS (hok o (by simp)) h1 ?_ ?_
      · rintro rfl e1 a1 w1 hst hS1
        simp only at h
        refine stepL_sound hZ hC hrd hnt l (i + 1) s1 s' ex a1 e1 w1 (fun k => by have := hi (k + 1); rw [List.getElem?_cons_succ] at this; rw [← this]; congr 1; omega)
          (fun o' ho' => hok o' (by simp [ho'])) hS1 h ?_ ?_
        · intro hx e2 a2 w2 hst2 hS2
          exact hn hx e2 a2 w2 (hst.trans hst2) hS2
        · intro v hx e2 a2 w2 hst2 hS2 hu
          exact hp v hx e2 a2 w2 (hst.trans hst2) hS2 hu
      · rintro v rfl e1 w1 hst hS1 hu
        simp only at h
        cases h
        exact hp v rfl e1 a w1 hst hS1 hu
end Go.Eng

namespace Go.Eng
variable [Shift]
variable {p : Par} {e e' e'' : Env} {H H' : Heap} {w w' w'' : World} {Z : Tab}

/-- How a piece of code is left. -/
def Post (p : Par) (e : Env) (H : Heap) (w : World) (nt : Nat) (ex : Ex) (s' : St) (E : Exit) (a' : Act) (w' : World) : Prop :=
  ∃ e', Step p e H w e' s'.h w' ∧ SRel p e' nt s' a' w' ∧
    match ex with
    | .normal => E = .normal
    | .exit i => E = .exit i
    | .ret => E = .ret
    | .panic v => E = .panic [{ v := ren e' v, recovered := false }] ∧ Und s'.h.D v

theorem Post.pre {nt : Nat} {ex : Ex} {s' : St} {E : Exit} {a' : Act} {w1 : World} {e1 : Env} {H1 : Heap} (hs : Step p e H w e1 H1 w1) (h : Post p e1 H1 w1 nt ex s' E a' w') : Post p e H w nt ex s' E a' w' := by
  obtain ⟨e2, h1, h2, h3⟩ := h
  exact ⟨e2, hs.trans h1, h2, h3⟩

/-- What is asked of regions that draw. -/
def DOk (Z : Tab) (p : Par) (C : Calls3) : Prop := ∀ (r : Option Nat) (nt n id : Nat) (ops : Array Oper) (s s' : St) (ex : Ex) (e : Env) (w : World) (a : Act),
  nt ≤ 2 ^ 30 → SRel p e nt s a w → (∀ o ∈ ops.toList, opOk p.G nt o = true) → stepD Z C r.isSome ops s = some (ex, s') →
  (Code.region id ops true).wpIn (FR r) n p.P (Post p e s.h w nt ex s') a w

theorem roundsIn_mono {F : Fence} {n : Nat} {P : Program} {c : Code} {Q Q' : Exit → Act → World → Prop} (hq : ∀ e a w, Q e a w → Q' e a w) :
    ∀ (m : Nat) (a : Act) (w : World), Code.roundsIn F n P c Q m a w → Code.roundsIn F n P c Q' m a w
  | 0, _, _, h => h
  | m + 1, a, w, h => by
    simp only [Code.roundsIn] at h ⊢
    refine wpIn_mono h ?_
    intro E a1 w1 hp
    cases E with
    | normal => exact roundsIn_mono hq m a1 w1 hp
    | _ => exact hq _ _ _ hp

theorem iter_sound {F : Fence} {n nt : Nat} {c : Code} {f : St → Option (Ex × St)}
    (hf : ∀ s s' ex e w a, SRel p e nt s a w → f s = some (ex, s') → c.wpIn F n p.P (Post p e s.h w nt ex s') a w) :
    ∀ (k : Nat) (s s' : St) (ex : Ex) (e : Env) (w : World) (a : Act), SRel p e nt s a w → iter f k s = some (ex, s') → Code.roundsIn F n p.P c (Post p e s.h w nt ex s') k a w := by
  intro k
  induction k with
  | zero => intro s s' ex e w a hS h; cases h
  | succ k ih =>
    intro s s' ex e w a hS h
    simp only [iter] at h
    cases h1 : f s with
    | none => rw [h1] at h; cases h
    | some res =>
      obtain ⟨ex1, s1⟩ := res
      rw [h1] at h
      simp only [Code.roundsIn]
      refine wpIn_mono (hf s s1 ex1 e w a hS h1) ?_
      rintro E a1 w1 ⟨e1, hst, hS1, hE⟩
      cases ex1 with
      | normal =>
        cases hE
        exact roundsIn_mono (fun _ _ _ hp => hp.pre hst) _ _ _ (ih s1 s' ex e1 w1 a1 hS1 h)
      | exit i => cases hE; cases h; exact ⟨e1, hst, hS1, rfl⟩
      | ret => cases hE; cases h; exact ⟨e1, hst, hS1, rfl⟩
      | panic v =>
        obtain ⟨rfl, hu⟩ := hE
        cases h; exact ⟨e1, hst, hS1, rfl, hu⟩

/-- A scope of which no jump leads back into it. -/
theorem wpIn_scope {F : Fence} {n : Nat} {P : Program} {a : Act} {c : Code} {Q : Exit → Act → World → Prop} (h : c.wpIn F n P (fun | .goto _, _, _ => False | E, a, w => Q E a w) a w) : (Code.scope c).wpIn F n P Q a w := by
  intro b k cs hro hb hr
  have st : step P (lone (b.atR a (.code (.scope c) :: k)) cs w) = .next (lone (b.atR a (.code c :: .inScope c :: k)) cs w) := step_lone_go (by simp [stepG, stepG.exec, Frame.atR])
  have st2 : ∀ a w, step P (lone (b.atR a (.inScope c :: k)) cs w) = .next (lone (b.atR a k) cs w) := fun a w => step_lone_go (by simp [stepG, stepG.exec, Frame.atR])
  have h0 : (lone (b.atR a (.code (.scope c) :: k)) cs w).fenced P F := fenced_calm hb hr rfl
  obtain ⟨E, a₁, w₁, hq, harr⟩ := h b (.inScope c :: k) cs hro hb hr
  cases E with
  | normal => exact ⟨.normal, a₁, w₁, hq, .head h0 st (StepsIn.trans harr (.one (fenced_calm hb hr rfl) (st2 _ _)))⟩
  | exit id =>
    have hx : exitTo id (.inScope c :: k) = exitTo id k := by simp [exitTo]
    exact ⟨.exit id, a₁, w₁, hq, fun k' hk => .head h0 st (harr.1 k' (by rw [hx]; exact hk)),
        fun hr' hk => let ⟨k₁, h1, h2⟩ := harr.2 hr' (by rw [hx]; exact hk); ⟨k₁, h1, .head h0 st h2⟩⟩
  | goto l => exact hq.elim
  | ret => exact ⟨_, a₁, w₁, hq, .of_steps (.one h0 st) harr⟩
  | panic ch => exact ⟨_, a₁, w₁, hq, .of_steps (.one h0 st) harr⟩
  | outgrown => exact ⟨_, a₁, w₁, hq, .of_steps (.one h0 st) harr⟩

theorem exThen {Q : Exit → Act → World → Prop} {next : Act → World → Prop} {nt : Nat} {ex : Ex} {s1 : St} {E : Exit} {a1 : Act} {w1 : World} (hp : Post p e H w nt ex s1 E a1 w1)
    (hn : ex = .normal → ∀ e1, Step p e H w e1 s1.h w1 → SRel p e1 nt s1 a1 w1 → next a1 w1) (hq : ex ≠ .normal → Q E a1 w1) : Exit.then next Q E a1 w1 := by
  obtain ⟨e1, hst, hS1, hE⟩ := hp
  cases ex with
  | normal => cases hE; exact hn rfl e1 hst hS1
  | exit i => cases hE; exact hq (by simp)
  | ret => cases hE; exact hq (by simp)
  | panic v => obtain ⟨rfl, hu⟩ := hE; exact hq (by simp)

theorem ev_bool {nt : Nat} {s : St} {a : Act} (hS : SRel p e nt s a w) {c : Operand} {t : Bool} (hc : operandOk p.G c = true) (h : ev s.T c = .bool t) : a.eval c = .bool t := by
  have := (hS.erel c hc (by rw [h]; rfl)).1
  rw [this, h, ren_bool]

theorem stepL_region {C : Calls3} (hZ : TOk Z p) (hC : COk p C) {r : Option Nat} {nt n id : Nat} {ops : Array Oper} {s s' : St} {ex : Ex} {a : Act} (hnt : nt ≤ 2 ^ 30) (hS : SRel p e nt s a w)
    (hok : ∀ o ∈ ops.toList, opOk p.G nt o = true) (h : stepL Z C r.isSome ops ops.toList s = some (ex, s')) :
    (Code.region id ops false).wpIn (FR r) n p.P (Post p e s.h w nt ex s') a w := by
  refine wpIn_region ?_
  rw [List.range_eq_range', ← Array.length_toList]
  refine stepL_sound hZ hC rfl hnt ops.toList 0 s s' ex a e w (fun k => by simp) hok hS h ?_ ?_
  · rintro rfl e1 a1 w1 hst hS1
    exact ⟨e1, hst, hS1, rfl⟩
  · rintro v rfl e1 a1 w1 hst hS1 hu
    exact ⟨e1, hst, hS1, rfl, hu⟩

/-- What is asked of a statement that ranges over a function. -/
def ROk (Z : Tab) (p : Par) (fuel : Nat) (C : Calls3) : Prop := ∀ (fid : FuncId) (nt n : Nat) (g : Operand) (ps : Array Tmp) (assign body : Code) (s s' : St) (ex : Ex) (e : Env) (w : World) (a : Act),
  nt ≤ 2 ^ 30 → SRel p e nt s a w → cOk p.G nt (.rangeFunc g ps assign body) = true → run Z fuel C ⟨fid, nt, false⟩ (.rangeFunc g ps assign body) s = some (ex, s') →
  (Code.rangeFunc g ps assign body).wpIn (FR none) n p.P (Post p e s.h w nt ex s') a w

theorem run_sound {fuel : Nat} {C : Calls3} (hZ : TOk Z p) (hC : COk p C) (hD : DOk Z p C) (hR : ROk Z p fuel C) {x : Ctx} (hnt : x.nt ≤ 2 ^ 30) {r : Option Nat} (hr : x.round = r.isSome) {n : Nat} (c : Code) :
    ∀ (s s' : St) (ex : Ex) (e : Env) (w : World) (a : Act), SRel p e x.nt s a w → cOk p.G x.nt c = true → run Z fuel C x c s = some (ex, s') →
      c.wpIn (FR r) n p.P (Post p e s.h w x.nt ex s') a w := by
  induction c with
  | skip => intro s s' ex e w a hS _ h; cases h; exact wpIn_skip ⟨e, .refl hS.rel, hS, rfl⟩
  | label l => intro s s' ex e w a hS _ h; cases h; exact wpIn_label ⟨e, .refl hS.rel, hS, rfl⟩
  | exit i => intro s s' ex e w a hS _ h; cases h; exact wpIn_exit ⟨e, .refl hS.rel, hS, rfl⟩
  | ret => intro s s' ex e w a hS _ h; cases h; exact wpIn_ret ⟨e, .refl hS.rel, hS, rfl⟩
  | goto l => intro s s' ex e w a hS _ h; cases h
  | scope c ih =>
    intro s s' ex e w a hS hok h
    simp only [cOk] at hok
    simp only [run] at h
    refine wpIn_scope (wpIn_mono (ih s s' ex e w a hS hok h) ?_)
    intro E a1 w1 hp
    have hE := hp
    obtain ⟨e1, _, _, hE⟩ := hE
    cases E with
    | goto l => cases ex <;> simp at hE
    | _ => exact hp
  | refuse y => intro s s' ex e w a hS _ h; cases h
  | region id ops draw =>
    intro s s' ex e w a hS hok h
    simp only [cOk, List.all_eq_true] at hok
    simp only [run, hr] at h
    cases draw with
    | true => exact hD r x.nt n id ops s s' ex e w a hnt hS hok h
    | false => exact stepL_region hZ hC hnt hS hok h
  | seq c1 c2 ih1 ih2 =>
    intro s s' ex e w a hS hok h
    simp only [cOk, Bool.and_eq_true] at hok
    simp only [run] at h
    cases h1 : run Z fuel C x c1 s with
    | none => rw [h1] at h; cases h
    | some res =>
      obtain ⟨ex1, s1⟩ := res
      rw [h1] at h
      refine wpIn_seq (wpIn_mono (ih1 s s1 ex1 e w a hS hok.1 h1) ?_)
      intro E a1 w1 hp
      refine exThen hp ?_ ?_
      · rintro rfl e1 hst hS1
        exact wpIn_mono (ih2 s1 s' ex e1 w1 a1 hS1 hok.2 h) fun _ _ _ hq => hq.pre hst
      · intro hne
        have : ex1 = ex ∧ s1 = s' := by cases ex1 <;> first | exact (hne rfl).elim | (cases h; exact ⟨rfl, rfl⟩)
        obtain ⟨rfl, rfl⟩ := this
        exact hp
  | cond c c1 c2 ih1 ih2 =>
    intro s s' ex e w a hS hok h
    simp only [cOk, Bool.and_eq_true] at hok
    simp only [run] at h
    split at h
    · rename_i t ht
      refine wpIn_cond (ev_bool hS hok.1.1 ht) ?_
      cases t with
      | true => exact ih1 s s' ex e w a hS hok.1.2 h
      | false => exact ih2 s s' ex e w a hS hok.2 h
    · cases h
  | block id c ih =>
    intro s s' ex e w a hS hok h
    simp only [cOk] at hok
    simp only [run] at h
    cases h1 : run Z fuel C x c s with
    | none => rw [h1] at h; cases h
    | some res =>
      obtain ⟨ex1, s1⟩ := res
      rw [h1] at h
      refine wpIn_block (wpIn_mono (ih s s1 ex1 e w a hS hok h1) ?_)
      rintro E a1 w1 ⟨e1, hst, hS1, hE⟩
      cases ex1 with
      | normal => cases hE; cases h; exact ⟨e1, hst, hS1, rfl⟩
      | exit i =>
        cases hE
        simp only at h
        simp only [Exit.inBlock]
        split at h
        · rename_i hi; cases h; rw [if_pos hi]; exact ⟨e1, hst, hS1, rfl⟩
        · rename_i hi; cases h; rw [if_neg hi]; exact ⟨e1, hst, hS1, rfl⟩
      | ret => cases hE; cases h; exact ⟨e1, hst, hS1, rfl⟩
      | panic v => obtain ⟨rfl, hu⟩ := hE; cases h; exact ⟨e1, hst, hS1, rfl, hu⟩
  | loop c ih =>
    intro s s' ex e w a hS hok h
    simp only [cOk] at hok
    simp only [run] at h
    exact wpIn_loop_rounds fuel (iter_sound (fun s s' ex e w a hS h => ih s s' ex e w a hS hok h) fuel s s' ex e w a hS h)
  | rangeFunc g ps c1 c2 ih1 ih2 =>
    intro s s' ex e w a hS hok h
    obtain ⟨fid, nt, rd⟩ := x
    cases rd with
    | true => simp [run] at h
    | false =>
      have : r = none := by cases r <;> simp_all
      subst this
      exact hR fid nt n g ps c1 c2 s s' ex e w a hnt hS hok h
end Go.Eng

namespace Go.Eng
variable [Shift]
variable {p : Par} {e e' e'' : Env} {H H' : Heap} {w w' w'' : World} {Z : Tab}

theorem run_newObj {P : Program} (r : Obj) (w : World) : (newObj r).run P w = .ok w.heap.size (w.alloc r) := rfl

theorem Rel.loopAt (hR : Rel p e H w) {l : Nat} {st : LoopState} {pend : Option Code} {fid : FuncId} {T : Tr Value} {nt : Nat} {ps : Array Tmp} {as bd : Code} {d : Nat}
    (h : H.get l = some (.loop st pend fid T nt ps as bd d)) :
    ∃ arr fn, w.heap[e.ρ l]? = some (.loop { state := st, pending := pend, fn := fn, tmps := arr, params := ps, assign := as, body := bd, defers := e.ρ d }) ∧ TRel e nt T arr := by
  obtain ⟨r, hr, ho⟩ := hR.obj _ _ h
  obtain ⟨arr, fn, rfl, ht⟩ := ho
  exact ⟨arr, fn, hr, ht⟩

theorem run_getLoop {P : Program} {l : Nat} {r : Loop} (h : w.heap[l]? = some (.loop r)) : (Instr.getLoop l).run P w = .ok r w := by
  simp only [Instr.getLoop, getObj, Sem.run_bind, Sem.run, h, Result.andThen_ok, Sem.run_pure]
theorem run_setObj {P : Program} {l : Nat} {o r : Obj} (h : w.heap[l]? = some o) (hc : ∀ c el fz, o ≠ .cells c el fz) : (setObj l r).run P w = .ok () { w with heap := w.heap.setIfInBounds l r } := by
  simp only [setObj, Sem.run, h]

/-- The record of a loop gets another state. -/
theorem Step.loopPut (hR : Rel p e H w) {l : Nat} {st st' : LoopState} {pend pend' : Option Code} {fid : FuncId} {T : Tr Value} {nt : Nat} {ps : Array Tmp} {as bd : Code} {d : Nat}
    (h : H.get l = some (.loop st pend fid T nt ps as bd d)) (hn : p.N0 ≤ l) {fn : FuncId} {arr : Array Value} (ht : TRel e nt T arr) :
    Step p e H w e (H.set l (some (.loop st' pend' fid T nt ps as bd d)))
      { w with heap := w.heap.setIfInBounds (e.ρ l) (.loop { state := st', pending := pend', fn := fn, tmps := arr, params := ps, assign := as, body := bd, defers := e.ρ d }) } := by
  have hu := hR.und _ _ h
  exact Step.put hR l _ _ _ h hn hu ⟨arr, fn, rfl, ht⟩ rfl rfl rfl rfl

theorem rangeFunc_sound {fuel : Nat} {C : Calls3} (hZ : TOk Z p) (hC : COk p C) : ROk Z p fuel C := by
  intro fid nt n g ps assign body s s' ex e w a hnt hS hok h
  simp only [run, Bool.false_or, Option.bind_eq_bind] at h
  split at h
  · cases h
  rename_i hsm
  have hsm' : s.h.next < 1000000000 := by
    cases hb : Nat.blt s.h.next 1000000000 with
    | true => exact Nat.blt_eq.mp hb
    | false => rw [hb] at hsm; exact (hsm rfl).elim
  split at h <;> try (cases h; done)
  rename_i f first cap hg
  split at h
  · cases h
  rename_i hfn
  simp only [Heap.newK_eq] at h
  simp only [cOk, Bool.and_eq_true, List.all_eq_true] at hok
  obtain ⟨⟨⟨hgo, hps⟩, has⟩, hbd⟩ := hok
  obtain ⟨hge, hgu⟩ := hS.erel g hgo (by rw [hg]; rfl)
  rw [hg] at hge hgu
  simp only [ren_func, renFn] at hge
  obtain ⟨_, hu1, hu2⟩ := und_func_inv hgu
  -- the two blocks
  have st1 := Step.alloc hS.rel (.deferred (some [])) (.deferred (some [])) 0 (by intro l hl x hx; cases hl; cases hx) rfl (by omega)
  generalize he1 : e.more s.h.next w.heap.size 0 = e1 at st1
  generalize hH1 : s.h.new (.deferred (some [])) = H1 at st1 h
  generalize hw1 : w.alloc (.deferred (some [])) = w1 at st1
  have hn1 : H1.next = s.h.next + 1 := by rw [← hH1]; rfl
  have hD1 : H1.D s.h.next := by
    have := hS.rel.newD
    rw [← hH1]; exact this
  have hr1 : e1.ρ s.h.next = w.heap.size := by rw [← he1]; simp
  refine wpIn_rangeFunc fun fn _ => ?_
  have hT1 : TRel e1 nt s.T a.tmps := hS.tmps.agree hS.tund st1.agree
  have hU1 : TUnd H1.D s.T := hS.tund.mono st1.sub
  let lp : Loop := { state := .ready, pending := none, fn := fn, tmps := a.tmps, params := ps, assign := assign, body := body, defers := w.heap.size }
  have st2 := Step.alloc st1.rel (.loop .ready none fid s.T nt ps assign body s.h.next) (.loop lp) 0
    ⟨hU1, hD1, has, hbd, hnt, fun q hq => Nat.blt_eq.mp (hps q hq)⟩
    ⟨a.tmps, fn, by
        have := (Env.more_agree e1 H1 w1.heap.size 0 _ hD1).1
        rw [← this, hr1], hT1.agree hU1 (Env.more_agree e1 H1 w1.heap.size 0)⟩ (by omega)
  generalize he2 : e1.more H1.next w1.heap.size 0 = e2 at st2
  generalize hH2 : H1.new (.loop .ready none fid s.T nt ps assign body s.h.next) = H2 at st2 h
  have hr2 : e2.ρ H1.next = w1.heap.size := by rw [← he2]; simp
  have hD2 : H2.D H1.next := by
    have := st1.rel.newD
    rw [← hH2]; exact this
  have st12 := st1.trans st2
  have hS2 := hS.step st12
  simp only [Option.bind_eq_some_iff] at h
  obtain ⟨⟨res, h3⟩, hcall, h⟩ := h
  have huargs : ∀ v ∈ first.toList ++ [Value.func (.yield H1.next) #[] #[]] ++ cap.toList, Und H2.D v := by
    intro v hv
    simp only [List.append_assoc, List.cons_append, List.nil_append, List.mem_append, List.mem_cons] at hv
    rcases hv with hv | rfl | hv
    · exact (hu1 v (by simpa using hv)).mono st12.sub
    · exact und_func (fun e e' ha => by simp [renFn, (ha _ hD2).1]) (by simp) (by simp)
    · exact (hu2 v (by simpa using hv)).mono st12.sub
  have hc := hC.fn f _ H2 res h3 hcall e2 (w1.alloc (.loop lp)) (n - 1) st2.rel huargs
  obtain ⟨fn', hfn'⟩ : ∃ fn', Z.fn f = some fn' := by
    cases hz : Z.fn f with
    | none => rw [hz] at hfn; exact (hfn rfl).elim
    | some fn' => exact ⟨fn', rfl⟩
  have hentr := (callFuncA_sound (f := f) (o := .enter f (first.toList ++ [Value.func (.yield H1.next) #[] #[]] ++ cap.toList)) hZ st2.rel (by simp only [callFuncA, hfn']) huargs).1
  have hfirst : first.map (ren e) = first.map (ren e2) := und_arr hu1 st12.agree
  have hcap : cap.map (ren e) = cap.map (ren e2) := und_arr hu2 st12.agree
  have hargs : (first.map (ren e) ++ #[Value.func (.yield w1.heap.size) #[] #[]] ++ cap.map (ren e)) = ((first.toList ++ [Value.func (.yield H1.next) #[] #[]] ++ cap.toList).map (ren e2)).toArray := by
    rw [hfirst, hcap]
    apply Array.ext'
    simp [renFn, hr2]
  refine ⟨w1.heap.size, [{ target := .collected w.heap.size, args := #[] }], w1.alloc (.loop lp),
    { target := .fn (.func f) (cap.map (ren e)), args := first.map (ren e) ++ #[Value.func (.yield w1.heap.size) #[] #[]] }, w1.alloc (.loop lp), f,
    ((first.toList ++ [Value.func (.yield H1.next) #[] #[]] ++ cap.toList).map (ren e2)).toArray, w1.alloc (.loop lp), ?_, ?_, fun _ _ => trivial, ?_, fun hd => by simp [FR] at hd, ?_⟩
  · rw [← hw1]
    simp only [Instr.enterLoop, FR, Sem.run_bind, run_newObj, Result.andThen_ok, Sem.run_pure, lp]
  · have hcv : a.eval (.const (.func (.yield w1.heap.size) #[] #[])) = .func (.yield w1.heap.size) #[] #[] := rfl
    simp [resolve, rangeCall, hge, Deferred.ofValue, hcv]
  · simp only [invoke, hargs]
    exact hentr
  · have hds : ({ a with defers := [{ target := .collected w.heap.size, args := #[] }] ++ a.defers } : Act).defers = ({ target := .collected s.h.next, args := #[] } :: s.ds).map (renD e2) := by
      simp only [List.singleton_append, List.map_cons]
      congr 1
      · simp only [renD, renT, Array.map_empty]
        rw [← (st2.agree _ hD1).1, hr1]
      · exact hS2.defs
    have hdu : ∀ d ∈ ({ target := .collected s.h.next, args := #[] } :: s.ds : List Deferred), DUnd H2.D d := by
      intro d hd
      rcases List.mem_cons.1 hd with rfl | hd
      · intro x y hxy
        simp only [renD, renT, Array.map_empty]
        rw [(hxy _ (st2.sub _ hD1)).1]
      · exact hS2.dund d hd
    have hSx : SRel p e2 nt ⟨s.T, H2, { target := .collected s.h.next, args := #[] } :: s.ds⟩ { a with defers := [{ target := .collected w.heap.size, args := #[] }] ++ a.defers } (w1.alloc (.loop lp)) :=
      ⟨hS2.rel, hS2.tmps, hS2.tund, hds, hdu⟩
    refine CallsIn.mono hc ?_
    rintro en w3 ⟨e3, st3, hres⟩
    have hS3 := hSx.step st3
    cases res with
    | pan v =>
      obtain ⟨rfl, hu⟩ := hres
      simp only [Option.some.injEq, Prod.mk.injEq] at h
      obtain ⟨rfl, rfl⟩ := h
      exact ⟨e3, st12.trans st3, hS3, rfl, hu⟩
    | ret v =>
      obtain ⟨rfl, hu⟩ := hres
      simp only [Option.bind_eq_some_iff] at h
      obtain ⟨o, hget, h⟩ := h
      split at h <;> try (cases h; done)
      rename_i st pend fid3 T3 nt3 ps3 a3 b3 d3
      split at h
      · cases h
      rename_i hbusy
      rw [Heap.setK_eq] at h
      obtain ⟨arr3, fn3, hrow, ht3⟩ := st3.rel.loopAt hget
      have hl3 : e3.ρ H1.next = w1.heap.size := by rw [← (st3.agree _ hD2).1, hr2]
      rw [hl3] at hrow
      have hNl : p.N0 ≤ H1.next := by have := hS.rel.nxt; omega
      have st4 := Step.loopPut (st' := .exhausted) (pend' := pend) st3.rel hget hNl (fn := fn3) ht3
      rw [hl3] at st4
      have hS4 := hS3.step st4
      have hend : (Instr.endLoop w1.heap.size).run p.P w3 = .ok pend { w3 with heap := w3.heap.setIfInBounds w1.heap.size (.loop { state := .exhausted, pending := pend, fn := fn3, tmps := arr3, params := ps3, assign := a3, body := b3, defers := e3.ρ d3 }) } := by
        have hin := (Array.getElem?_eq_some_iff.1 hrow).1
        simp [Instr.endLoop, run_getLoop hrow, hbusy, run_setObj hrow (fun _ _ _ h => by cases h)]
      refine ⟨pend, _, hend, ?_⟩
      have hall := (st12.trans st3).trans st4
      split at h
      · cases h; exact ⟨e3, hall, hS4, rfl⟩
      · cases h; exact wpIn_ret ⟨e3, hall, hS4, rfl⟩
      · cases h; exact wpIn_exit ⟨e3, hall, hS4, rfl⟩
      · cases h
end Go.Eng

namespace Go.Eng
variable [Shift]
variable {p : Par} {e e' e'' : Env} {H H' : Heap} {w w' w'' : World} {Z : Tab}

theorem mapM_run {P : Program} {D : Nat → Prop} {f : ResultVar → Sem Value} {g : ResultVar → Option Value} (hfg : ∀ r v, g r = some v → (f r).run P w = .ok (ren e v) w ∧ Und D v) :
    ∀ (l : List ResultVar) (vs : List Value), l.mapM g = some vs → (l.mapM f).run P w = .ok (vs.map (ren e)) w ∧ (∀ v ∈ vs, Und D v) ∧ vs.length = l.length := by
  intro l
  induction l with
  | nil => intro vs h; simp only [List.mapM_nil] at h; cases h; exact ⟨by simp, by simp, rfl⟩
  | cons r l ih =>
    intro vs h
    simp only [List.mapM_cons, Option.bind_eq_bind, Option.bind_eq_some_iff] at h
    obtain ⟨v, hv, vs', hvs, h⟩ := h
    cases h
    obtain ⟨h1, h2⟩ := hfg r v hv
    obtain ⟨h3, h4, h5⟩ := ih vs' hvs
    refine ⟨by simp [List.mapM_cons, h1, h3], ?_, by simp [h5]⟩
    intro x hx
    rcases List.mem_cons.1 hx with rfl | hx
    · exact h2
    · exact h4 x hx

def rvRun (arr : Array Value) : ResultVar → Sem Value
  | .tmp t => pure (arr.getD t undef)
  | .cell a t => do loadVar t (← asAddr (arr.getD a undef))
theorem results_eq (fn : Func) (arr : Array Value) : results fn arr = (do let vs ← fn.results.mapM (rvRun arr); pure (if h : vs.size = 1 then vs[0] else .tuple vs)) := by
  unfold results
  congr 2

theorem results_sound (hZ : TOk Z p) (hR : Rel p e H w) {nt : Nat} {T : Tr Value} {arr : Array Value} (hT : TRel e nt T arr) (hU : TUnd H.D T) {fn : Func} {v : Value}
    (h : resultsOf Z H T fn.results.toList = some v) : (results fn arr).run p.P w = .ok (ren e v) w ∧ Und H.D v := by
  have hone : ∀ r v, resultOf Z H T r = some v →
      (rvRun arr r).run p.P w = .ok (ren e v) w ∧ Und H.D v := by
    intro r v hr
    cases r with
    | tmp t =>
      simp only [resultOf] at hr
      have := hT.2 t v hr
      exact ⟨by simp [rvRun, this], hU t v hr⟩
    | cell a t =>
      simp only [resultOf] at hr
      split at hr <;> try (cases hr; done)
      rename_i ad ha
      have := hT.2 a _ ha
      obtain ⟨h1, h2⟩ := loadV_sound hZ hR hr
      exact ⟨by simp [rvRun, this, asAddr, h1], h2⟩
  obtain ⟨l, hl⟩ : ∃ l : List ResultVar, fn.results = l.toArray := ⟨fn.results.toList, by simp⟩
  rw [hl] at h
  have key : ∀ vs, l.mapM (resultOf Z H T) = some vs → (results fn arr).run p.P w = .ok (if h : vs.length = 1 then ren e (vs[0]'(by omega)) else .tuple (vs.map (ren e)).toArray) w ∧ (∀ v ∈ vs, Und H.D v) ∧ vs.length = l.length := by
    intro vs hvs
    obtain ⟨h1, h2, h3⟩ := mapM_run (w := w) hone l vs hvs
    refine ⟨?_, h2, h3⟩
    simp only [results_eq, hl, List.mapM_toArray, Sem.run_bind, Sem.run_map, h1, Result.andThen_ok, Sem.run_pure, List.size_toArray, List.length_map]
    by_cases hv : vs.length = 1
    · rw [dif_pos hv, dif_pos hv]; simp
    · rw [dif_neg hv, dif_neg hv]
  simp only at h
  unfold resultsOf at h
  split at h
  · rename_i r
    obtain ⟨h1, h2, _⟩ := key [v] (by simp [List.mapM_cons, h])
    exact ⟨by simpa using h1, h2 v (by simp)⟩
  · rename_i hne
    simp only [Option.map_eq_some_iff] at h
    obtain ⟨vs, hvs, rfl⟩ := h
    obtain ⟨h1, h2, h3⟩ := key vs (by simpa using hvs)
    have : vs.length ≠ 1 := by
      intro hv
      rw [h3] at hv
      obtain ⟨r, hr⟩ := List.length_eq_one_iff.1 hv
      exact hne r (by simpa using hr)
    rw [dif_neg this] at h1
    refine ⟨by rw [h1]; simp, und_tuple fun x hx => h2 x (by simpa using hx)⟩

/-- How a frame is on its way out. -/
def MRel (e : Env) (D : Nat → Prop) (m : Option Value) (u : FrameMode) : Prop :=
  match m with
  | none => u = .returning
  | some v => u = .panicking [{ v := ren e v, recovered := false }] ∧ Und D v

theorem MRel.step {m : Option Value} {u : FrameMode} (h : MRel e H.D m u) (hs : Step p e H w e' H' w') : MRel e' H'.D m u := by
  cases m with
  | none => exact h
  | some v => exact ⟨by rw [h.1, h.2.eq hs.agree], h.2.mono hs.sub⟩
theorem MRel.ne_run {D : Nat → Prop} {m : Option Value} {u : FrameMode} (h : MRel e D m u) : u ≠ .run := by
  cases m with
  | none => rw [show u = _ from h]; simp
  | some v => rw [h.1]; simp

/-- How a call has ended. -/
def RPost (p : Par) (e : Env) (H : Heap) (w : World) (r : Res) (H' : Heap) (en : Ending) (w' : World) : Prop :=
  ∃ e', Step p e H w e' H' w' ∧
      match r with
      | .ret v => en = .returned (ren e' v) ∧ Und H'.D v
      | .pan v => en = .panicked [{ v := ren e' v, recovered := false }] ∧ Und H'.D v
theorem RPost.pre {r : Res} {en : Ending} {w1 : World} {e1 : Env} {H1 : Heap} (hs : Step p e H w e1 H1 w1) (h : RPost p e1 H1 w1 r H' en w') : RPost p e H w r H' en w' := by
  obtain ⟨e2, h1, h2⟩ := h
  exact ⟨e2, hs.trans h1, h2⟩

theorem leavesInM_mono {F : Fence} {n : Nat} {P : Program} {fn : Func} {arr : Array Value} {R R' : Ending → World → Prop} (hr : ∀ en w, R en w → R' en w) :
    ∀ (ds : List Deferred) (u : FrameMode) (w : World), LeavesInM F n P fn arr R ds u w → LeavesInM F n P fn arr R' ds u w
  | [], u, w, h => by
    cases u with
    | run => exact h
    | returning => obtain ⟨v, h1, h2⟩ := h; exact ⟨v, h1, hr _ _ h2⟩
    | panicking c => exact hr _ _ h
  | d :: ds, u, w, ⟨hu, h⟩ => by
    refine ⟨hu, ?_⟩
    rcases h with ⟨r, w', h1, h2, h3⟩ | ⟨h1, fv, cap, f, args, h2, h3, h4, h5⟩
    · exact .inl ⟨r, w', h1, h2, leavesInM_mono hr ds u w' h3⟩
    · refine .inr ⟨h1, fv, cap, f, args, h2, h3, h4, CallsDIn.mono h5 ?_⟩
      intro en u' w' hx
      cases en with
      | returned v => exact leavesInM_mono hr ds _ w' hx
      | panicked c => exact leavesInM_mono hr ds _ w' hx
      | outgrown => exact hr _ _ hx

theorem leave_sound (hZ : TOk Z p) {C : Calls3} (hC : COk p C) {n nt : Nat} {fn : Func} {T : Tr Value} {arr : Array Value} :
    ∀ (ds : List Deferred) (m : Option Value) (h h' : Heap) (res : Res) (e : Env) (w : World) (u : FrameMode), Rel p e h w → TRel e nt T arr → TUnd h.D T → (∀ d ∈ ds, DUnd h.D d) → MRel e h.D m u →
      leave Z C fn T ds m h = some (res, h') → LeavesInM (FR none) n p.P fn arr (RPost p e h w res h') (ds.map (renD e)) u w
  | [], none, h, h', res, e, w, u, hR, hT, hU, hds, hm, hl => by
    simp only [leave, Option.map_eq_some_iff] at hl
    obtain ⟨v, hv, heq⟩ := hl
    cases heq
    obtain ⟨h1, h2⟩ := results_sound hZ hR hT hU hv
    rw [show u = _ from hm]
    exact ⟨_, h1, e, .refl hR, rfl, h2⟩
  | [], some v, h, h', res, e, w, u, hR, hT, hU, hds, hm, hl => by
    simp only [leave] at hl
    cases hl
    rw [hm.1]
    exact ⟨e, .refl hR, rfl, hm.2⟩
  | d :: ds, m, h, h', res, e, w, u, hR, hT, hU, hds, hm, hl => by
    have hrest : ∀ x ∈ ds, DUnd h.D x := fun x hx => hds x (by simp [hx])
    refine ⟨hm.ne_run, ?_⟩
    simp only [leave] at hl
    split at hl
    · rename_i r hr
      split at hl
      · cases hl
      rename_i hn0
      have hn : p.N0 ≤ r := by
        have : Nat.ble Z.N0 r = true := by simpa using hn0
        have := Nat.le_of_ble_eq_true this
        rw [hZ.n0] at this; exact this
      split at hl <;> try (cases hl; done)
      rename_i hg
      rw [Heap.setK_eq] at hl
      obtain ⟨rr, hrr, ho⟩ := hR.obj _ _ hg
      simp only [ORel] at ho
      subst ho
      have hs : Step p e h w e (h.set r (some (.deferred none))) { w with heap := w.heap.setIfInBounds (e.ρ r) (.deferred none) } :=
        Step.put hR r _ _ (.deferred none) hg hn (by intro l hl; cases hl) rfl rfl rfl rfl rfl
      refine .inl ⟨e.ρ r, _, by simp [renD, renT, hr], ?_, leavesInM_mono (fun _ _ hx => hx.pre hs) _ _ _ (leave_sound hZ hC ds m _ h' res e _ u hs.rel hT (hU.mono hs.sub) (fun x hx => (hrest x hx).mono hs.sub) (hm.step hs) hl)⟩
      have hin := (Array.getElem?_eq_some_iff.1 hrr).1
      simp only [Instr.takeDeferred, getObj, Sem.run_bind, Sem.run, hrr, Result.andThen_ok, Option.map_some, List.map_nil]
      rw [show setObj (e.ρ r) (Obj.deferred none) = setObj (e.ρ r) (Obj.deferred none) from rfl, run_setObj hrr (fun _ _ _ hx => by cases hx)]
      rfl
    · rename_i f cap hd
      split at hl
      · cases hl
      rename_i hfn
      obtain ⟨fn', hfn'⟩ : ∃ fn', Z.fn f = some fn' := by
        cases hz : Z.fn f with
        | none => rw [hz] at hfn; exact (hfn rfl).elim
        | some fn' => exact ⟨fn', rfl⟩
      split at hl <;> try (cases hl; done)
      rename_i rec h1 hdf
      have hdu := hds d (by simp)
      have hau : ∀ a ∈ d.args.toList ++ cap.toList, Und h.D a := by
        intro a ha x y hxy
        have := hdu x y hxy
        simp only [renD, hd, renT, Deferred.mk.injEq, Target.fn.injEq] at this
        rcases List.mem_append.1 ha with ha | ha
        · exact mem_of_map_eq this.2 a (by simpa using ha)
        · exact mem_of_map_eq this.1.2 a (by simpa using ha)
      have hcall := hC.df f _ m h rec h1 hdf e w (n - 1) u hR hau (by cases m <;> exact hm)
      have hentr := (callFuncA_sound (f := f) (o := .enter f (d.args.toList ++ cap.toList)) hZ hR (by simp only [callFuncA, hfn']) hau).1
      refine .inr ⟨fun hx => by simp [FR] at hx, .func f, cap.map (ren e), f, ((d.args.toList ++ cap.toList).map (ren e)).toArray, by simp [renD, renT, hd, renFn], ?_, fun _ _ => trivial, CallsDIn.mono hcall ?_⟩
      · simp only [renD, renT, hd, renFn, invoke]
        have : d.args.map (ren e) ++ cap.map (ren e) = ((d.args.toList ++ cap.toList).map (ren e)).toArray := by
          apply Array.ext'; simp
        rw [this]; exact hentr
      · rintro en u1 w1 ⟨e1, hs, ⟨x, rfl⟩, hset, hrec⟩
        have hm1 : MRel e1 h1.D (cond rec none m) (settle u1) := by
          rw [hset]
          cases rec with
          | true => exact rfl
          | false => exact hm.step hs
        have := leave_sound (n := n) hZ hC ds (cond rec none m) h1 h' res e1 w1 (settle u1) hs.rel (hT.agree hU hs.agree) (hU.mono hs.sub) (fun x hx => (hrest x hx).mono hs.sub) hm1 hl
        rw [← dmap_eq hrest hs.agree] at this
        exact leavesInM_mono (fun _ _ hx => hx.pre hs) _ _ _ this
    · cases hl
end Go.Eng

namespace Go.Eng
variable [Shift]
variable {p : Par} {e e' e'' : Env} {H H' : Heap} {w w' w'' : World} {Z : Tab}

def enterT : List Value → Nat → Tr Value → Tr Value
  | [], _, T => T
  | v :: vs, i, T => enterT vs (i + 1) (putA T (some i) v)
theorem enterK_eq {β : Type} : ∀ (vs : List Value) (i : Nat) (T : Tr Value) (k : Tr Value → β), enterK vs i T k = k (enterT vs i T)
  | [], _, _, _ => rfl
  | v :: vs, i, T, k => by simp only [enterK, enterT, putK_eq]; exact enterK_eq vs (i + 1) _ k
theorem enterT_get : ∀ (vs : List Value) (i : Nat) (T : Tr Value) (t : Nat), i + vs.length < 2 ^ 40 → (enterT vs i T).get t = if i ≤ t ∧ t < i + vs.length then vs[t - i]? else T.get t
  | [], i, T, t, h => by simp only [enterT, List.length_nil]; rw [if_neg (by omega)]
  | v :: vs, i, T, t, h => by
    simp only [List.length_cons] at h
    simp only [enterT, List.length_cons]
    rw [enterT_get vs (i + 1) _ t (by omega)]
    by_cases h1 : i + 1 ≤ t ∧ t < i + 1 + vs.length
    · rw [if_pos h1, if_pos (by omega)]
      obtain ⟨k, hk⟩ : ∃ k, t - i = k + 1 := ⟨t - i - 1, by omega⟩
      rw [hk, List.getElem?_cons_succ]; congr 1; omega
    · rw [if_neg h1]
      simp only [putA]
      rw [Tr.get_set _ _ _ _ (by omega)]
      by_cases h2 : t = i
      · subst h2; rw [if_pos rfl, if_pos (by omega)]; simp
      · rw [if_neg h2, if_neg (by omega)]
def setAllT : Tr Value → List Tmp → List Value → Tr Value
  | T, t :: ts, v :: vs => setAllT (putA T (some t) v) ts vs
  | T, _, _ => T
theorem setAllK_eq {β : Type} : ∀ (ts : List Tmp) (vs : List Value) (T : Tr Value) (k : Tr Value → β), setAllK T ts vs k = k (setAllT T ts vs)
  | [], vs, T, k => by simp [setAllK, setAllT]
  | t :: ts, [], T, k => by simp [setAllK, setAllT]
  | t :: ts, v :: vs, T, k => by simp only [setAllK, setAllT, putK_eq]; exact setAllK_eq ts vs _ k

/-- The frame at its beginning. -/
theorem SRel.enter (hR : Rel p e H w) {args : List Value} (hu : ∀ a ∈ args, Und H.D a) {nt : Nat} (hn : args.length ≤ nt) (hnt : nt ≤ 2 ^ 30) :
    SRel p e nt ⟨enterT args 0 .e, H, []⟩ { tmps := (args.map (ren e)).toArray ++ Array.replicate (nt - (args.map (ren e)).toArray.size) undef, defers := [] } w := by
  refine ⟨hR, ⟨by simp; omega, ?_⟩, ?_, rfl, by simp⟩
  · intro t v hv
    rw [enterT_get args 0 .e t (by omega)] at hv
    split at hv
    · rename_i ht
      simp only [Nat.sub_zero] at hv
      rw [Array.getElem?_append_left (by simp; omega)]
      simp [hv]
    · cases hv
  · intro t v hv
    simp only at hv
    rw [enterT_get args 0 .e t (by omega)] at hv
    split at hv
    · exact hu v (List.mem_of_getElem? hv)
    · cases hv

theorem setAll_sound {nt : Nat} {D : Nat → Prop} : ∀ (ts : List Tmp) (vs : List Value) (T : Tr Value) (arr : Array Value), nt ≤ 2 ^ 30 → (∀ q ∈ ts, q < nt) → (∀ v ∈ vs, Und D v) → TRel e nt T arr → TUnd D T →
    TRel e nt (setAllT T ts vs) ((ts.zip (vs.map (ren e))).foldl (fun tmps (t, a) => tmps.setIfInBounds t a) arr) ∧ TUnd D (setAllT T ts vs)
  | [], vs, T, arr, hnt, hts, hvs, hT, hU => by simpa [setAllT] using ⟨hT, hU⟩
  | t :: ts, [], T, arr, hnt, hts, hvs, hT, hU => by simpa [setAllT] using ⟨hT, hU⟩
  | t :: ts, v :: vs, T, arr, hnt, hts, hvs, hT, hU => by
    simp only [setAllT, List.map_cons, List.zip_cons_cons, List.foldl_cons]
    have ht : t < nt := hts t (by simp)
    have hget : ∀ q, (putA T (some t) v).get q = if q = t then some v else T.get q := fun q => Tr.get_set _ _ _ _ (by have : @LT.lt Nat _ t nt := ht; omega)
    refine setAll_sound ts vs _ _ hnt (fun q hq => hts q (by simp [hq])) (fun x hx => hvs x (by simp [hx])) ⟨by simp [hT.1], ?_⟩ ?_
    · intro q u hq
      rw [hget] at hq
      split at hq
      · rename_i hqt
        subst hqt
        cases hq
        simp [hT.1, ht]
      · rename_i hqt
        rw [Array.getElem?_setIfInBounds_ne (Ne.symm hqt)]
        exact hT.2 q u hq
    · intro q u hq
      rw [hget] at hq
      split at hq
      · cases hq; exact hvs v (by simp)
      · exact hU q u hq

/-! ### Deferred functions -/
/-- The stack above which a deferred function runs: the mode of the frame that called it. -/
def KRel (e : Env) (m : Option Value) (u : FrameMode) (rec : Bool) (c₀ : Frame) (cs₀ : List Frame) (cs : List Frame) : Prop :=
  ∃ u', cs = { c₀ with mode := u' } :: cs₀ ∧ (rec = false → u' = u) ∧ (rec = true → ∃ v, m = some v ∧ u' = .panicking [{ v := ren e v, recovered := true }])

def PostS (p : Par) (e : Env) (H : Heap) (w : World) (nt : Nat) (e0 : Env) (m : Option Value) (u : FrameMode) (c₀ : Frame) (cs₀ : List Frame) (ex : Ex) (s' : St) (rec' : Bool) (E : Exit) (a' : Act) (cs' : List Frame) (w' : World) : Prop :=
  Post p e H w nt ex s' E a' w' ∧ KRel e0 m u rec' c₀ cs₀ cs'

theorem stepS_sound (hZ : TOk Z p) {n nt : Nat} {ops : Array Oper} (hnt : nt ≤ 2 ^ 30) {e0 : Env} {m : Option Value} {u : FrameMode} {c₀ : Frame} {cs₀ : List Frame} {D0 : Nat → Prop} (hm : MRel e0 D0 m u) {Q : Exit → Act → List Frame → World → Prop} :
    ∀ (l : List Oper) (i : Nat) (s s' : St) (rec rec' : Bool) (a : Act) (cs : List Frame) (e : Env) (w : World), (∀ k, ops[i + k]? = l[k]?) → (∀ o ∈ l, opOk p.G nt o = true) → SRel p e nt s a w → KRel e0 m u rec c₀ cs₀ cs →
    Agree D0 e0 e → (∀ b, D0 b → s.h.D b) → stepS Z ops l s m rec = some (s', rec') →
    (∀ e' a' w' cs', Step p e s.h w e' s'.h w' → SRel p e' nt s' a' w' → KRel e0 m u rec' c₀ cs₀ cs' → Q .normal a' cs' w') →
    wpOpsSIn (FR none) n p.P ops Q (List.range' i l.length) a cs w
  | [], i, s, s', rec, rec', a, cs, e, w, _, _, hS, hK, _, _, h, hn => by
    simp only [stepS] at h
    cases h
    exact hn e a w cs (Step.refl hS.rel) hS hK
  | o :: l, i, s, s', rec, rec', a, cs, e, w, hi, hok, hS, hK, hag, hD0, h, hn => by
    simp only [List.length_cons, List.range'_succ, wpOpsSIn]
    have h0 := hi 0
    simp only [Nat.add_zero, List.getElem?_cons_zero] at h0
    rw [h0]
    simp only [stepS, Option.bind_eq_bind] at h
    split at h
    · cases h
    rename_i hsm
    have hsm' : s.h.next < 1000000000 := by
      cases hb : Nat.blt s.h.next 1000000000 with
      | true => exact Nat.blt_eq.mp hb
      | false => rw [hb] at hsm; exact (hsm rfl).elim
    simp only [Option.bind_eq_some_iff] at h
    obtain ⟨b, hb, h⟩ := h
    refine ⟨fun _ _ => trivial, ?_⟩
    rw [wantedA_sound hS hb]
    have hi' : ∀ k, ops[i + 1 + k]? = l[k]? := fun k => by have := hi (k + 1); rw [List.getElem?_cons_succ] at this; rw [← this]; congr 1; omega
    have hok' : ∀ o' ∈ l, opOk p.G nt o' = true := fun o' ho' => hok o' (by simp [ho'])
    have hoko := hok o (by simp)
    cases b with
    | false =>
      simp only [Bool.false_eq_true, if_false, putK_eq] at h ⊢
      have hS1 := hS.put hnt hoko (v := undef) und_undef
      rw [ren_undef] at hS1
      exact stepS_sound hZ hnt hm l (i + 1) _ s' rec rec' _ cs e w hi' hok' hS1 hK hag hD0 h hn
    | true =>
      simp only [if_true, Option.bind_eq_some_iff] at h ⊢
      obtain ⟨out, hout, h⟩ := h
      have hopn : ∀ x ∈ o.op.operands.toList, operandOk p.G x = true := by
        simp only [opOk, Bool.and_eq_true, List.all_eq_true] at hoko
        exact hoko.2
      have hsound := doOp_sound hZ hS.rel (by omega) hS.erel hopn hout
      cases out with
      | val v d =>
        simp only [putK_eq, Heap.appK_eq] at h
        obtain ⟨e1, w1, hrun, hstep, hu⟩ := hsound
        have hS1 := (hS.step hstep).put hnt hoko hu
        have next : wpOpsSIn (FR none) n p.P ops Q (List.range' (i + 1) l.length) (a.put o.dst (ren e1 v)) cs w1 :=
          stepS_sound hZ hnt hm l (i + 1) _ s' rec rec' _ cs e1 w1 hi' hok' hS1 hK (hag.trans hstep.agree hD0) (fun b hb => hstep.sub b (hD0 b hb)) h
            (fun e2 a2 w2 cs2 hst hS2 hK2 => hn e2 a2 w2 cs2 (hstep.trans hst) hS2 hK2)
        rcases hrun with hrun | ⟨hrun, rfl⟩
        · rw [hrun]; exact next
        · rw [hrun]; simpa using next
      | recover =>
        rw [show (execOp a.eval o).run p.P w = .ok .recover w from hsound]
        simp only
        obtain ⟨u', rfl, hr1, hr2⟩ := hK
        have other : (m = none ∨ rec = true) → wpOpsSIn (FR none) n p.P ops Q (List.range' (i + 1) l.length) (a.put o.dst .nilIface) ({ c₀ with mode := u' } :: cs₀) w := by
          intro hmr
          have h' : stepS Z ops l ⟨putA s.T o.dst .nilIface, s.h, s.ds⟩ m rec = some (s', rec') := by
            rcases hmr with rfl | rfl
            · simpa only [putK_eq] using h
            · cases m <;> simpa only [putK_eq] using h
          have hS1 := hS.put hnt hoko (v := .nilIface) und_nilIface
          rw [ren_nilIface] at hS1
          exact stepS_sound hZ hnt hm l (i + 1) _ s' rec rec' _ _ e w hi' hok' hS1 ⟨u', rfl, hr1, hr2⟩ hag hD0 h' hn
        cases m with
        | none =>
          have hrf : rec = false := by
            cases rec with
            | false => rfl
            | true => obtain ⟨v, hv, _⟩ := hr2 rfl; cases hv
          have hu' : u' = .returning := (hr1 hrf).trans hm
          have : recoverD ({ c₀ with mode := u' } :: cs₀) = none := by simp [recoverD, hu']
          rw [this]
          exact other (.inl rfl)
        | some v =>
          cases rec with
          | true =>
            obtain ⟨v', hv', hu'⟩ := hr2 rfl
            have : recoverD ({ c₀ with mode := u' } :: cs₀) = none := by simp [recoverD, hu']
            rw [this]
            exact other (.inr rfl)
          | false =>
            have hu' : u' = .panicking [{ v := ren e0 v, recovered := false }] := (hr1 rfl).trans hm.1
            have : recoverD ({ c₀ with mode := u' } :: cs₀) = some (ren e0 v, { c₀ with mode := .panicking [{ v := ren e0 v, recovered := true }] } :: cs₀) := by
              simp [recoverD, hu']
            rw [this]
            simp only [putK_eq] at h ⊢
            have huv : Und s.h.D v := hm.2.mono hD0
            have hS1 := hS.put hnt hoko huv
            rw [← hm.2.eq hag] at hS1
            exact stepS_sound hZ hnt hm l (i + 1) _ s' true rec' _ _ e w hi' hok' hS1 ⟨_, rfl, (fun hx => by cases hx), fun _ => ⟨v, rfl, rfl⟩⟩ hag hD0 h hn
      | _ => cases h

theorem runS_sound {fuel : Nat} {C : Calls3} (hZ : TOk Z p) (hC : COk p C) (hD : DOk Z p C) (hR : ROk Z p fuel C) {x : Ctx} (hnt : x.nt ≤ 2 ^ 30) (hr : x.round = false) {n : Nat}
    {e0 : Env} {m : Option Value} {u : FrameMode} {c₀ : Frame} {cs₀ : List Frame} {D0 : Nat → Prop} (hm : MRel e0 D0 m u) (c : Code) :
    ∀ (s s' : St) (rec rec' : Bool) (ex : Ex) (e : Env) (w : World) (a : Act) (cs : List Frame), SRel p e x.nt s a w → KRel e0 m u rec c₀ cs₀ cs → Agree D0 e0 e → (∀ b, D0 b → s.h.D b) → cOk p.G x.nt c = true →
      runS Z fuel C x m c s rec = some (ex, s', rec') → c.wpSIn (FR none) n p.P (PostS p e s.h w x.nt e0 m u c₀ cs₀ ex s' rec') a cs w := by
  have plainRun : ∀ (c : Code) (s s' : St) (rec rec' : Bool) (ex : Ex) (e : Env) (w : World) (a : Act) (cs : List Frame), SRel p e x.nt s a w → KRel e0 m u rec c₀ cs₀ cs → cOk p.G x.nt c = true →
      ((run Z fuel C x c s).map fun r => (r.1, r.2, rec)) = some (ex, s', rec') → c.wpSIn (FR none) n p.P (PostS p e s.h w x.nt e0 m u c₀ cs₀ ex s' rec') a cs w := by
    intro c s s' rec rec' ex e w a cs hS hK hok h
    simp only [Option.map_eq_some_iff] at h
    obtain ⟨⟨ex1, s1⟩, hrun, heq⟩ := h
    cases heq
    refine wpSIn_of_wpIn rfl (wpIn_mono (run_sound hZ hC hD hR hnt (r := none) (by simp [hr]) c s s1 ex1 e w a hS hok hrun) ?_)
    intro E a1 w1 hp
    exact ⟨hp, hK⟩
  induction c with
  | region id ops draw =>
    intro s s' rec rec' ex e w a cs hS hK hag hD0 hok h
    simp only [runS] at h
    split at h
    · split at h
      · cases h
      · rename_i hdraw
        have : draw = false := by simpa using hdraw
        subst this
        simp only [Option.map_eq_some_iff] at h
        obtain ⟨⟨s1, r1⟩, hstep, heq⟩ := h
        cases heq
        simp only [cOk, List.all_eq_true] at hok
        refine wpSIn_region ?_
        rw [List.range_eq_range', ← Array.length_toList]
        exact stepS_sound hZ hnt hm ops.toList 0 s s1 rec r1 a cs e w (fun k => by simp) hok hS hK hag hD0 hstep
          (fun e' a' w' cs' hst hS' hK' => ⟨⟨e', hst, hS', rfl⟩, hK'⟩)
    · exact plainRun _ s s' rec rec' ex e w a cs hS hK hok h
  | seq c1 c2 ih1 ih2 =>
    intro s s' rec rec' ex e w a cs hS hK hag hD0 hok h
    simp only [cOk, Bool.and_eq_true] at hok
    simp only [runS] at h
    cases h1 : runS Z fuel C x m c1 s rec with
    | none => rw [h1] at h; cases h
    | some res =>
      obtain ⟨ex1, s1, r1⟩ := res
      rw [h1] at h
      refine wpSIn_seq ?_
      intro b k hb hro hF hroom
      obtain ⟨E, a1, cs1, w1, hl, ⟨hp, hK1⟩, harr⟩ := ih1 s s1 rec r1 ex1 e w a cs hS hK hag hD0 hok.1 h1 b k hb hro hF hroom
      refine ⟨E, a1, cs1, w1, hl, ?_, harr⟩
      obtain ⟨e1, hst, hS1, hE⟩ := hp
      cases ex1 with
      | normal =>
        cases hE
        intro b k hb hro hF hroom
        obtain ⟨E2, a2, cs2, w2, hl2, ⟨hp2, hK2⟩, harr2⟩ := ih2 s1 s' r1 rec' ex e1 w1 a1 cs1 hS1 hK1 (hag.trans hst.agree hD0) (fun b hb => hst.sub b (hD0 b hb)) hok.2 h b k hb hro hF hroom
        exact ⟨E2, a2, cs2, w2, hl2, ⟨hp2.pre hst, hK2⟩, harr2⟩
      | exit i => cases hE; cases h; exact ⟨⟨e1, hst, hS1, rfl⟩, hK1⟩
      | ret => cases hE; cases h; exact ⟨⟨e1, hst, hS1, rfl⟩, hK1⟩
      | panic v => obtain ⟨rfl, hu⟩ := hE; cases h; exact ⟨⟨e1, hst, hS1, rfl, hu⟩, hK1⟩
  | cond c c1 c2 ih1 ih2 =>
    intro s s' rec rec' ex e w a cs hS hK hag hD0 hok h
    simp only [cOk, Bool.and_eq_true] at hok
    simp only [runS] at h
    split at h
    · rename_i t ht
      refine wpSIn_cond (ev_bool hS hok.1.1 ht) ?_
      cases t with
      | true => exact ih1 s s' rec rec' ex e w a cs hS hK hag hD0 hok.1.2 h
      | false => exact ih2 s s' rec rec' ex e w a cs hS hK hag hD0 hok.2 h
    · cases h
  | _ => intro s s' rec rec' ex e w a cs hS hK hag hD0 hok h; exact plainRun _ s s' rec rec' ex e w a cs hS hK hok h
end Go.Eng

namespace Go.Eng
variable [Shift]
variable {p : Par} {e e' e'' : Env} {H H' : Heap} {w w' w'' : World} {Z : Tab}

theorem COk.none : COk p Calls3.none := ⟨(fun _ _ _ _ _ h => by cases h), (fun _ _ _ _ _ h => by cases h), (fun _ _ _ _ _ _ h => by cases h)⟩

theorem fn_sound {fuel k : Nat} (hZ : TOk Z p) (hC : COk p (calls Z fuel k)) (hD : DOk Z p (calls Z fuel k)) {f : FuncId} {args : List Value} {h h' : Heap} {r : Res} (hf : (calls Z fuel (k + 1)).fn f args h = some (r, h'))
    {n : Nat} (hR : Rel p e h w) (hu : ∀ a ∈ args, Und h.D a) : CallsIn (FR none) n p.P f (args.map (ren e)).toArray w (RPost p e h w r h') := by
  simp only [calls, Option.bind_eq_bind, Option.bind_eq_some_iff] at hf
  obtain ⟨fn, hfn, c, hc, hf⟩ := hf
  split at hf
  · cases hf
  rename_i hlen
  simp only [enterK_eq, Option.bind_eq_some_iff] at hf
  obtain ⟨⟨ex, s⟩, hrun, hf⟩ := hf
  obtain ⟨hP, ⟨c', hc', hcok, hnt⟩, _⟩ := hZ.fn f fn hfn
  rw [hc] at hc'
  cases hc'
  have hS := SRel.enter hR hu (nt := fn.ntmps) (by omega) hnt
  refine callsIn_of_wp_marks hP hc trivial ?_
  refine wpIn_mono (run_sound (r := none) hZ hC hD (rangeFunc_sound hZ hC) hnt rfl c _ s ex e w _ hS hcok hrun) ?_
  rintro E a1 w1 ⟨e1, hst, hS1, hE⟩
  have hmr : (m : Option Value) → (u : FrameMode) → MRel e1 s.h.D m u → leave Z (calls Z fuel k) fn s.T s.ds m s.h = some (r, h') → LeavesInM (FR none) n p.P fn a1.tmps (RPost p e h w r h') a1.defers u w1 := by
    intro m u hm hl
    rw [hS1.defs]
    exact leavesInM_mono (fun _ _ hx => hx.pre hst) _ _ _ (leave_sound hZ hC s.ds m s.h h' r e1 w1 u hS1.rel hS1.tmps hS1.tund hS1.dund hm hl)
  cases ex with
  | normal => cases hE; exact hmr none _ rfl hf
  | ret => cases hE; exact hmr none _ rfl hf
  | panic v => obtain ⟨rfl, hv⟩ := hE; exact hmr (some v) _ ⟨rfl, hv⟩ hf
  | exit i => cases hf

theorem df_sound {fuel k : Nat} (hZ : TOk Z p) (hC : COk p (calls Z fuel k)) (hD : DOk Z p (calls Z fuel k)) {f : FuncId} {args : List Value} {m : Option Value} {h h' : Heap} {rec : Bool}
    (hf : (calls Z fuel (k + 1)).df f args m h = some (rec, h')) {n : Nat} {u : FrameMode} (hR : Rel p e h w) (hu : ∀ a ∈ args, Und h.D a) (hm : MRel e h.D m u) :
    CallsDIn (FR none) n p.P f (args.map (ren e)).toArray u w fun en u' w' => ∃ e', Step p e h w e' h' w' ∧ (∃ x, en = .returned x) ∧ settle u' = (if rec then .returning else u) ∧ (rec = true → m.isSome = true) := by
  simp only [calls, Option.bind_eq_bind, Option.bind_eq_some_iff] at hf
  obtain ⟨fn, hfn, c, hc, hf⟩ := hf
  split at hf
  · cases hf
  rename_i hlen
  simp only [enterK_eq, Option.bind_eq_some_iff] at hf
  obtain ⟨⟨ex, s, rec1⟩, hrun, hf⟩ := hf
  obtain ⟨hP, ⟨c', hc', hcok, hnt⟩, _⟩ := hZ.fn f fn hfn
  rw [hc] at hc'
  cases hc'
  have hS := SRel.enter hR hu (nt := fn.ntmps) (by omega) hnt
  refine callsDIn_of_wpSIn hP hc trivial ?_
  intro c₀ cs₀ hmode
  have hK : KRel e m u false c₀ cs₀ (c₀ :: cs₀) := ⟨u, by subst hmode; rfl, fun _ => rfl, fun hx => by cases hx⟩
  have hwp := runS_sound (n := n) (x := ⟨f, fn.ntmps, false⟩) hZ hC hD (rangeFunc_sound hZ hC) hnt rfl hm c _ s false rec1 ex e w _ (c₀ :: cs₀) hS hK (.refl _ _) (fun _ hb => hb) hcok hrun
  intro b k' hb hro hF hroom
  obtain ⟨E, a1, cs1, w1, hl, ⟨⟨e1, hst, hS1, hE⟩, u', hcs, hr1, hr2⟩, harr⟩ := hwp b k' hb hro hF hroom
  refine ⟨E, a1, cs1, w1, hl, ?_, harr⟩
  have fin : s.ds = [] → (resultsOf Z s.h s.T fn.results.toList).map (fun _ => (rec1, s.h)) = some (rec, h') →
      a1.defers = [] ∧ ∃ u', cs1 = { c₀ with mode := u' } :: cs₀ ∧ ∃ v, (results fn a1.tmps).run p.P w1 = .ok v w1 ∧
        ∃ e', Step p e h w e' h' w1 ∧ (∃ x, Ending.returned v = .returned x) ∧ settle u' = (if rec then .returning else u) ∧ (rec = true → m.isSome = true) := by
    intro hds hres
    simp only [Option.map_eq_some_iff] at hres
    obtain ⟨v, hv, heq⟩ := hres
    cases heq
    refine ⟨by rw [hS1.defs, hds]; rfl, u', hcs, _, (results_sound hZ hS1.rel hS1.tmps hS1.tund hv).1, e1, hst, ⟨_, rfl⟩, ?_, ?_⟩
    · cases rec with
      | true =>
        obtain ⟨v', _, hu'⟩ := hr2 rfl
        rw [hu']; rfl
      | false =>
        rw [hr1 rfl]
        cases m with
        | none => rw [show u = _ from hm]; rfl
        | some v' => rw [hm.1]; rfl
    · intro hx
      obtain ⟨v', hv', _⟩ := hr2 hx
      rw [hv']; rfl
  cases hds : s.ds with
  | cons d ds => simp only [hds] at hf; cases ex <;> cases hf
  | nil =>
    simp only [hds] at hf
    cases ex with
    | normal => cases hE; exact fin hds hf
    | ret => cases hE; exact fin hds hf
    | exit i => cases hf
    | panic v => cases hf

theorem rd_sound {fuel k : Nat} (hZ : TOk Z p) (hC : COk p (calls Z fuel k)) (hD : DOk Z p (calls Z fuel k)) {l : Nat} {args : List Value} {h h' : Heap} {v : Value} (hf : (calls Z fuel (k + 1)).rd l args h = some (v, h'))
    {n : Nat} (hR : Rel p e h w) (hu : ∀ a ∈ args, Und h.D a) :
    ∃ f tmps assign body, (Instr.yield (e.ρ l) (args.map (ren e)).toArray).run p.P w = .ok (.round (e.ρ l) f tmps assign body) w ∧
      RoundIn (FR none) n p.P (e.ρ l) f tmps assign body w fun en w' => ∃ e', Step p e h w e' h' w' ∧ en = .returned (ren e' v) ∧ Und h'.D v := by
  simp only [calls, Option.bind_eq_bind] at hf
  split at hf
  · cases hf
  rename_i hn0
  have hn : p.N0 ≤ l := by
    have : Nat.ble Z.N0 l = true := by simpa using hn0
    have := Nat.le_of_ble_eq_true this
    rw [hZ.n0] at this; exact this
  simp only [Option.bind_eq_some_iff] at hf
  obtain ⟨o, hget, hf⟩ := hf
  split at hf <;> try (cases hf; done)
  rename_i st pend fid T nt ps as bd d
  split at hf
  · cases hf
  rename_i hlen
  have hlen' : args.length = ps.size := Classical.not_not.1 hlen
  simp only [setAllK_eq, Option.bind_eq_some_iff] at hf
  obtain ⟨⟨ex1, s1⟩, hrun1, hf⟩ := hf
  obtain ⟨arr, fn, hrow, hT⟩ := hR.loopAt hget
  obtain ⟨hU, hDd, has, hbd, hnt, hps⟩ := hR.und _ _ hget
  have hyield : (Instr.yield (e.ρ l) (args.map (ren e)).toArray).run p.P w = .ok (.round (e.ρ l) fn ((ps.zip (args.map (ren e)).toArray).foldl (fun tmps (t, a) => tmps.setIfInBounds t a) arr) as bd) w := by
    simp only [Instr.yield, Sem.run_bind, run_getLoop hrow, Result.andThen_ok]
    rw [if_neg (by simp [hlen'])]
    rfl
  refine ⟨_, _, _, _, hyield, ?_⟩
  obtain ⟨hT1, hU1⟩ := setAll_sound ps.toList args T arr hnt hps hu hT hU
  have hfold : (ps.zip (args.map (ren e)).toArray).foldl (fun tmps (t, a) => tmps.setIfInBounds t a) arr = (ps.toList.zip (args.map (ren e))).foldl (fun tmps (t, a) => tmps.setIfInBounds t a) arr := by
    rw [← Array.foldl_toList]; simp
  rw [hfold]
  have hS : SRel p e nt ⟨setAllT T ps.toList args, h, []⟩ { tmps := (ps.toList.zip (args.map (ren e))).foldl (fun tmps (t, a) => tmps.setIfInBounds t a) arr, defers := [] } w :=
    ⟨hR, hT1, hU1, rfl, by simp⟩
  refine roundIn_of_wpIn trivial ?_
  obtain rfl : ex1 = .normal := by cases ex1 <;> first | rfl | cases hf
  simp only [Option.bind_eq_some_iff] at hf
  obtain ⟨o2, hget2, hf⟩ := hf
  have hlR : ∀ {e1 : Env} {H1 : Heap} {w1 : World}, Step p e h w e1 H1 w1 → e1.ρ l = e.ρ l := fun hst => ((hst.agree l (hR.lt l _ hget)).1).symm
  refine wpIn_mono (run_sound (r := some (e.ρ l)) (x := ⟨fid, nt, true⟩) hZ hC hD (rangeFunc_sound hZ hC) hnt rfl as _ _ _ e w _ hS has hrun1) ?_
  rintro E a1 w1 ⟨e1, hst1, hS1, hE⟩
  cases hE
  split at hf <;> try (cases hf; done)
  rename_i st2 pend2 fid2 T2 nt2 ps2 a2 b2 d2
  simp only [Heap.setK_eq, Option.bind_eq_some_iff] at hf
  obtain ⟨⟨ex2, s2⟩, hrun2, o3, hget3, hf⟩ := hf
  obtain ⟨arr2, fn2, hrow2, hT2⟩ := hS1.rel.loopAt hget2
  have stB := Step.loopPut (st' := .busy) (pend' := pend2) hS1.rel hget2 hn (fn := fn2) hT2
  have hl1 := hlR hst1
  refine ⟨{ w1 with heap := w1.heap.setIfInBounds (e1.ρ l) (.loop { state := .busy, pending := pend2, fn := fn2, tmps := arr2, params := ps2, assign := a2, body := b2, defers := e1.ρ d2 }) }, ?_, ?_⟩
  · rw [hl1] at hrow2
    simp only [Instr.beginRound, Sem.run_bind, run_getLoop hrow2, Result.andThen_ok, run_setObj hrow2 (fun _ _ _ hx => by cases hx), hl1, Sem.run_pure]
  · have hSB := hS1.step stB
    refine wpIn_mono (run_sound (r := some (e.ρ l)) (x := ⟨fid, nt, true⟩) hZ hC hD (rangeFunc_sound hZ hC) hnt rfl bd _ _ _ e1 _ _ hSB hbd hrun2) ?_
    rintro E a3 w3 ⟨e3, hst3, hS3, hE⟩
    have hall := (hst1.trans stB).trans hst3
    have hl3 := hlR hall
    split at hf <;> try (cases hf; done)
    rename_i st3 pend3 fid3 T3 nt3 ps3 a3' b3 d3
    obtain ⟨arr3, fn3, hrow3, hT3⟩ := hS3.rel.loopAt hget3
    have fin : ∀ (jump : Option Code) (st4 : LoopState), (if jump.isNone then LoopState.ready else LoopState.done) = st4 → s2.h.set l (some (.loop st4 jump fid3 T3 nt3 ps3 a3' b3 d3)) = h' → v = .bool jump.isNone →
        ∃ v' w', (Instr.endRound (e.ρ l) jump).run p.P w3 = .ok v' w' ∧ ∃ e', Step p e h w e' h' w' ∧ Ending.returned v' = .returned (ren e' v) ∧ Und h'.D v := by
      intro jump st4 hst4 hh hv
      have stE := Step.loopPut (st' := st4) (pend' := jump) hS3.rel hget3 hn (fn := fn3) hT3
      rw [hh] at stE
      rw [hl3] at hrow3 stE
      refine ⟨.bool jump.isNone, _, ?_, e3, hall.trans stE, by rw [hv]; simp, by rw [hv]; exact und_bool _⟩
      simp only [Instr.endRound, Sem.run_bind, run_getLoop hrow3, Result.andThen_ok, run_setObj hrow3 (fun _ _ _ hx => by cases hx), Sem.run_pure, hst4]
    cases ex2 with
    | normal =>
      cases hE
      simp only [Option.some.injEq, Prod.mk.injEq] at hf
      exact fin none .ready rfl hf.2 hf.1.symm
    | ret =>
      cases hE
      simp only [Option.some.injEq, Prod.mk.injEq] at hf
      exact fin (some .ret) .done rfl hf.2 hf.1.symm
    | exit i =>
      cases hE
      simp only [Option.some.injEq, Prod.mk.injEq] at hf
      exact fin (some (.exit i)) .done rfl hf.2 hf.1.symm
    | panic v' => cases hf

theorem calls_sound (hZ : TOk Z p) {fuel : Nat} (hD : ∀ C, COk p C → DOk Z p C) : ∀ k, COk p (calls Z fuel k)
  | 0 => COk.none
  | k + 1 => by
    have ih := calls_sound hZ (fuel := fuel) hD k
    refine ⟨?_, ?_, ?_⟩
    · intro f args h r h' hf e w n hR hu
      exact fn_sound hZ ih (hD _ ih) hf hR hu
    · intro l args h v h' hf e w n hR hu
      exact rd_sound hZ ih (hD _ ih) hf hR hu
    · intro f args m h rec h' hf e w n u hR hu hm
      exact df_sound hZ ih (hD _ ih) hf hR hu (by cases m <;> exact hm)
end Go.Eng
end
