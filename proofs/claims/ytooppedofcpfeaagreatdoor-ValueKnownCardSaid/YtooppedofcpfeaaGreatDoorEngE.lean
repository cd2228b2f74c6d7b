/- Operations that leave memory alone. -/
import Derived.Test.YtooppedofcpfeaaGreatDoorEngD
set_option linter.all false
namespace Go.Eng
variable [Shift]
variable {p : Par} {e e' : Env} {H H' : Heap} {w w' : World} {Z : Tab}

theorem pureOf_run {P : Program} {s : Sem Value} {v : Value} (h : pureOf s = some v) (w : World) : s.run P w = .ok v w ∧ scalar v = true := by
  cases s <;> simp only [pureOf] at h <;> try (cases h; done)
  rename_i a
  cases hs : scalar a with
  | false => rw [hs] at h; cases h
  | true => rw [hs] at h; cases h; exact ⟨rfl, hs⟩
theorem ren_scalar {v : Value} (h : scalar v = true) : ren e v = v := by cases v <;> simp_all [scalar]
theorem und_scalar {n : Nat → Prop} {v : Value} (h : scalar v = true) : Und n v := fun e e' _ => by rw [ren_scalar h, ren_scalar h]
theorem eqGuard_scalar {op : BinOp} {t : TypeId} {x y : Operand} {a b : Value} (h : scalar a = true) : eqGuard op t x y a b = pure () := by
  cases a <;> simp [scalar] at h
  · exact eqGuard_at_bool _ _ _ _ _ _
  · exact eqGuard_at_int _ _ _ _ _ _ _
  · exact eqGuard_at_string _ _ _ _ _ _


section
variable {P : Program} {t : TypeId} (d : Nat)
theorem eq_bool (h : P.underlying t = some .bool) (a b : Bool) : (Op.equalIn (d + 1) t (.bool a) (.bool b)).run P w = .ok (a == b) w := by
  simp [Op.equalIn, r_und h]
theorem eq_nils {ms : Array (String × TypeId)} (h : P.underlying t = some (.interface ms)) : (Op.equalIn (d + 1) t .nilIface .nilIface).run P w = .ok true w := by
  simp [Op.equalIn, r_und h]
theorem eq_nilL {ms : Array (String × TypeId)} (h : P.underlying t = some (.interface ms)) (tx : TypeId) (v : Value) : (Op.equalIn (d + 1) t .nilIface (.iface tx v)).run P w = .ok false w := by
  simp [Op.equalIn, r_und h]
theorem eq_nilR {ms : Array (String × TypeId)} (h : P.underlying t = some (.interface ms)) (tx : TypeId) (v : Value) : (Op.equalIn (d + 1) t (.iface tx v) .nilIface).run P w = .ok false w := by
  simp [Op.equalIn, r_und h]
theorem eq_other {ms : Array (String × TypeId)} (h : P.underlying t = some (.interface ms)) {tx ty : TypeId} (hne : tx ≠ ty) (v u : Value) :
    (Op.equalIn (d + 1) t (.iface tx v) (.iface ty u)).run P w = .ok false w := by
  simp [Op.equalIn, r_und h, hne]
theorem eq_ints {ms : Array (String × TypeId)} (h : P.underlying t = some (.interface ms)) {tx : TypeId} {i : TypeInfo} (hi : P.info? tx = some i) (hc : i.comparable = true) {k1 : IntKind}
    (hu : P.underlying tx = some (.int k1)) (k : IntKind) (a b : Int) : (Op.equalIn (d + 1 + 1) t (.iface tx (.int k a)) (.iface tx (.int k b))).run P w = .ok (a == b) w := by
  have h1 : (Op.equalIn (d + 1) tx (.int k a) (.int k b)).run P w = .ok (a == b) w := by simp [Op.equalIn, r_und hu]
  rw [Op.equalIn]
  simp [r_und h, r_info hi, hc, h1]
end
theorem equal_eq (t : TypeId) (x y : Value) : Op.equal t x y = Op.equalIn (9998 + 1 + 1) t x y := rfl

theorem ifaceEq_sound (hZ : TOk Z p) {t tx ty : TypeId} {vx vy : Value} {b : Bool} (h : ifaceEq Z t tx ty vx vy = some b) :
    (Op.equal t (.iface tx (ren e vx)) (.iface ty (ren e vy))).run p.P w = .ok b w := by
  simp only [ifaceEq, Option.bind_eq_bind, Option.bind_eq_some_iff] at h
  obtain ⟨d, hd, h⟩ := h
  split at h <;> try (cases h; done)
  rename_i ms
  have hu := hZ.und _ _ hd
  rw [equal_eq]
  split at h
  · rename_i hne
    cases h
    exact eq_other _ hu hne _ _
  · rename_i heq
    have heq' : tx = ty := Classical.not_not.1 heq
    subst heq'
    simp only [Option.bind_eq_some_iff] at h
    obtain ⟨i, hi, h⟩ := h
    split at h
    · cases h
    rename_i hc
    simp only [Option.bind_eq_some_iff] at h
    obtain ⟨d2, hd2, h⟩ := h
    split at h <;> try (cases h; done)
    split at h
    · rename_i hk
      cases h
      subst hk
      simp only [ren_int]
      exact eq_ints _ hu (hZ.info _ _ hi) (by simpa using hc) (hZ.und _ _ hd2) _ _ _
    · cases h

theorem eqlA_sound {P : Program} {op : BinOp} {t : TypeId} {x y v : Value} {b : Bool} (h : eqlA op b = some v) (hr : (Op.equal t x y).run P w = .ok b w)
    (h1 : binOp .eql t x y = (do pure (.bool (← Op.equal t x y)))) (h2 : binOp .neq t x y = (do pure (.bool (!(← Op.equal t x y))))) : (binOp op t x y).run P w = .ok v w ∧ scalar v = true := by
  cases op <;> simp only [eqlA] at h <;> first | (cases h; done) | skip
  · cases h; rw [h1]; exact ⟨by simp [hr], rfl⟩
  · cases h; rw [h2]; exact ⟨by simp [hr], rfl⟩
theorem isIfaceD_some {o : Option TypeDesc} (h : isIfaceD o = true) : ∃ ms, o = some (.interface ms) := by
  unfold isIfaceD at h; split at h
  · exact ⟨_, rfl⟩
  · cases h
theorem isBoolD_some {o : Option TypeDesc} (h : isBoolD o = true) : o = some .bool := by
  unfold isBoolD at h; split at h
  · rfl
  · cases h

theorem divA_sound {P : Program} {op : BinOp} {t : TypeId} {k k' : IntKind} {a b : Int} {v : Value} (h : divA op k a k' b = some v) :
    (binOp op t (.int k a) (.int k' b)).run P w = .ok v w ∧ scalar v = true := by
  cases op <;> simp only [divA] at h <;> first | (cases h; done) | skip
  · split at h <;> try (cases h; done)
    rename_i hk; obtain ⟨rfl, hb⟩ := hk
    rw [binOp_quo]; exact pureOf_run h w
  · split at h <;> try (cases h; done)
    rename_i hk; obtain ⟨rfl, hb⟩ := hk
    rw [binOp_rem]; exact pureOf_run h w
  · split at h <;> try (cases h; done)
    rw [binOp_shl]; exact pureOf_run h w
  · split at h <;> try (cases h; done)
    rw [binOp_shr]; exact pureOf_run h w

theorem binOpA_sound (hZ : TOk Z p) {op : BinOp} {t : TypeId} {lit : Bool} {ox oy : Operand} {x y v : Value} (h : binOpA Z op t lit x y = some v) (hlit : lit = (isConst ox || isConst oy)) :
    ((do eqGuard op t ox oy (ren e x) (ren e y); binOp op t (ren e x) (ren e y)) : Sem Value).run p.P w = .ok v w ∧ scalar v = true := by
  simp only [binOpA] at h
  split at h
  · rename_i hc
    simp only [Bool.and_eq_true] at hc
    obtain ⟨⟨⟨hx, hy⟩, _⟩, _⟩ := hc
    obtain ⟨hr, hs⟩ := pureOf_run (P := p.P) h w
    rw [ren_scalar hx, ren_scalar hy, eqGuard_scalar hx]
    exact ⟨by simpa using hr, hs⟩
  · split at h
    · obtain ⟨hr, hs⟩ := divA_sound (P := p.P) (w := w) (t := t) h
      simp only [ren_int, eqGuard_at_int]
      exact ⟨by simpa using hr, hs⟩
    · split at h <;> try (cases h; done)
      rename_i hd
      have hu := hZ.und _ _ (isBoolD_some hd)
      obtain ⟨hr, hs⟩ := eqlA_sound (P := p.P) (w := w) (t := t) h (by rw [equal_eq]; exact eq_bool _ hu _ _) rfl rfl
      simp only [ren_bool, eqGuard_at_bool]
      exact ⟨by simpa using hr, hs⟩
    · split at h <;> try (cases h; done)
      rename_i hd
      simp only [Bool.and_eq_true] at hd
      obtain ⟨hl, hd⟩ := hd
      obtain ⟨ms, hm⟩ := isIfaceD_some hd
      obtain ⟨hr, hs⟩ := eqlA_sound (P := p.P) (w := w) (t := t) h (by rw [equal_eq]; exact eq_nils _ (hZ.und _ _ hm)) rfl rfl
      have hg : eqGuard op t ox oy .nilIface .nilIface = pure () := by
        rw [hlit] at hl
        cases ox <;> cases oy <;> simp [isConst] at hl <;> cases op <;> rfl
      simp only [ren_nilIface, hg]
      exact ⟨by simpa using hr, hs⟩
    · simp only [Option.bind_eq_some_iff] at h
      obtain ⟨b, hb, h⟩ := h
      obtain ⟨hr, hs⟩ := eqlA_sound (P := p.P) (w := w) h (ifaceEq_sound (e := e) hZ hb) rfl rfl
      simp only [ren_iface, eqGuard_at_iface]
      exact ⟨by simpa using hr, hs⟩
    · split at h <;> try (cases h; done)
      rename_i tx vx _ hd
      obtain ⟨ms, hm⟩ := isIfaceD_some hd
      obtain ⟨hr, hs⟩ := eqlA_sound (P := p.P) (w := w) (t := t) (x := .iface tx (ren e vx)) h (by rw [equal_eq]; exact eq_nilR _ (hZ.und _ _ hm) _ _) rfl rfl
      simp only [ren_iface, ren_nilIface, eqGuard_at_iface]
      exact ⟨by simpa using hr, hs⟩
    · split at h <;> try (cases h; done)
      rename_i tx vx _ hd
      obtain ⟨ms, hm⟩ := isIfaceD_some hd
      obtain ⟨hr, hs⟩ := eqlA_sound (P := p.P) (w := w) (t := t) (y := .iface tx (ren e vx)) h (by rw [equal_eq]; exact eq_nilL _ (hZ.und _ _ hm) _ _) rfl rfl
      simp only [ren_iface, ren_nilIface, eqGuard_nil_iface]
      exact ⟨by simpa using hr, hs⟩
    · cases h

/-! ### Values out of values -/
theorem partA_sound (hZ : TOk Z p) {t : TypeId} {cs : Array Value} {off : Nat} {n : Nat → Prop} {v : Value} (h : partA Z t cs off = some v) (hu : ∀ x ∈ cs, Und n x) :
    (part t (cs.map (ren e)) off).run p.P w = .ok (ren e v) w ∧ Und n v := by
  simp only [partA, Option.bind_eq_bind, Option.bind_eq_some_iff] at h
  obtain ⟨d, hd, h⟩ := h
  split at h
  · rename_i ha
    simp only [Option.bind_eq_some_iff] at h
    obtain ⟨i, hi, h⟩ := h
    cases h
    refine ⟨?_, und_agg fun x hx => hu x ?_⟩
    · simp [part, r_isAgg (hZ.und _ _ hd), ha, r_size (hZ.info _ _ hi)]
    · have h1 : x ∈ (cs.extract off (off + i.size)).toList := Array.mem_toList_iff.2 hx
      rw [Array.toList_extract, List.extract_eq_take_drop] at h1
      simpa using List.mem_of_mem_drop (List.mem_of_mem_take h1)
  · rename_i ha
    refine ⟨?_, hu v (Array.mem_of_getElem? h)⟩
    simp [part, r_isAgg (hZ.und _ _ hd), ha, h]

theorem fieldA_sound (hZ : TOk Z p) {t : TypeId} {x v : Value} {f : Nat} {n : Nat → Prop} (h : fieldA Z t x f = some v) (hu : Und n x) :
    (Instr.field t (ren e x) f).run p.P w = .ok (ren e v) w ∧ Und n v := by
  simp only [fieldA, Option.bind_eq_bind, Option.bind_eq_some_iff] at h
  obtain ⟨d, hd, h⟩ := h
  split at h <;> try (cases h; done)
  simp only [Option.bind_eq_some_iff] at h
  obtain ⟨fl, hfl, h⟩ := h
  split at h <;> try (cases h; done)
  rename_i cs
  obtain ⟨hr, hv⟩ := partA_sound (e := e) (w := w) hZ h (und_agg_inv hu)
  refine ⟨?_, hv⟩
  simp [Instr.field, r_und (hZ.und _ _ hd), hfl, asAgg, hr]

theorem fieldAddrA_sound (hZ : TOk Z p) {t : TypeId} {x v : Value} {f : Nat} {n : Nat → Prop} (h : fieldAddrA Z t x f = some v) (hu : Und n x) :
    (Instr.fieldAt t (ren e x) f).run p.P w = .ok (ren e v) w ∧ Und n v := by
  simp only [fieldAddrA, Option.bind_eq_bind, Option.bind_eq_some_iff] at h
  obtain ⟨d, hd, h⟩ := h
  split at h <;> try (cases h; done)
  simp only [Option.bind_eq_some_iff] at h
  obtain ⟨fl, hfl, i, hi, h⟩ := h
  split at h <;> try (cases h; done)
  rename_i a
  split at h <;> try (cases h; done)
  rename_i hsz
  cases h
  refine ⟨?_, ?_⟩
  · simp [Instr.fieldAt, r_und (hZ.und _ _ hd), hfl, Instr.sureAddr, fieldPlace, r_size (hZ.info _ _ hi), hsz, addr_add]
  · intro e1 e2 ha
    have := hu e1 e2 ha
    simp only [ren_ptr, Value.pointer.injEq, Option.some.injEq] at this ⊢
    rw [← addr_add, ← addr_add, this]

theorem und_ptr_add {n : Nat → Prop} {k : Nat} {a : Addr} (hu : Und n (.pointer (some a))) : Und n (.pointer (some (a.add k))) := fun e1 e2 ha => by
  have := hu e1 e2 ha
  simp only [ren_ptr, Value.pointer.injEq, Option.some.injEq] at this ⊢
  rw [← addr_add, ← addr_add, this]
theorem und_slice_ptr {n : Nat → Prop} {l c : Nat} {a : Addr} (hu : Und n (.slice (some a) l c)) : Und n (.pointer (some a)) := fun e1 e2 ha => by
  have := hu e1 e2 ha
  simp only [ren_slice, Value.slice.injEq, Option.some.injEq] at this
  simp only [ren_ptr, this.1]

theorem indexAddrA_sound (hZ : TOk Z p) {t : TypeId} {x ix v : Value} {n : Nat → Prop} (h : indexAddrA Z t x ix = some v) (hu : Und n x) :
    (Instr.indexAt t (ren e x) (ren e ix)).run p.P w = .ok (ren e v) w ∧ Und n v := by
  simp only [indexAddrA] at h
  split at h <;> try (cases h; done)
  rename_i k i
  simp only [Option.bind_eq_bind, Option.bind_eq_some_iff] at h
  obtain ⟨d, hd, h⟩ := h
  have hud := hZ.und _ _ hd
  split at h <;> try (cases h; done)
  · rename_i m el a
    simp only [Option.bind_eq_some_iff] at h
    obtain ⟨j, hj, h⟩ := h
    split at h <;> try (cases h; done)
    rename_i hin
    cases h
    refine ⟨?_, und_ptr_add hu⟩
    simp [Instr.indexAt, asIntOf, r_und hud, Instr.sureAddr, hin.1, hin.2, r_size (hZ.info _ _ hj), addr_add]
  · rename_i el a m c
    simp only [Option.bind_eq_some_iff] at h
    obtain ⟨j, hj, h⟩ := h
    split at h <;> try (cases h; done)
    rename_i hin
    cases h
    refine ⟨?_, und_ptr_add (und_slice_ptr hu)⟩
    simp [Instr.indexAt, asIntOf, r_und hud, hin.1, hin.2, r_size (hZ.info _ _ hj), addr_add]

theorem indexA_sound (hZ : TOk Z p) {t : TypeId} {x ix v : Value} {n : Nat → Prop} (h : indexA Z t x ix = some v) (hu : Und n x) :
    (Instr.index t (ren e x) (ren e ix)).run p.P w = .ok (ren e v) w ∧ Und n v := by
  simp only [indexA] at h
  split at h <;> try (cases h; done)
  rename_i k i
  simp only [Option.bind_eq_bind, Option.bind_eq_some_iff] at h
  obtain ⟨d, hd, h⟩ := h
  have hud := hZ.und _ _ hd
  split at h <;> try (cases h; done)
  · rename_i m el cs
    simp only [Option.bind_eq_some_iff] at h
    obtain ⟨j, hj, h⟩ := h
    split at h <;> try (cases h; done)
    rename_i hin
    obtain ⟨hr, hv⟩ := partA_sound (e := e) (w := w) hZ h (und_agg_inv hu)
    refine ⟨?_, hv⟩
    simp [Instr.index, asIntOf, r_und hud, hin.1, hin.2, r_size (hZ.info _ _ hj), hr]
  · rename_i s
    split at h <;> try (cases h; done)
    rename_i hin
    simp only [Option.map_eq_some_iff] at h
    obtain ⟨b, hb, rfl⟩ := h
    refine ⟨?_, und_int _ _⟩
    simp [Instr.index, asIntOf, r_und hud, hin, hb]

theorem bound_sound {P : Program} {x : Option Value} {d y r : Nat} {code : BoundsCode} (h : bound x d y = some r) :
    (match x.map (ren e) with | some v => Instr.sliceBound v y code | none => pure d : Sem Nat).run P w = .ok r w := by
  unfold bound at h
  split at h
  · cases h; rfl
  · rename_i k i
    split at h <;> try (cases h; done)
    rename_i hin
    cases h
    simp [Instr.sliceBound, asIntOf, hin.1, hin.2]
  · cases h
theorem slice_bounds {P : Program} {lo hi : Option Value} {isS : Bool} {len cap hh l : Nat} (h1 : bound hi len cap = some hh) (h2 : bound lo 0 hh = some l) :
    (Instr.sliceBounds isS len cap (lo.map (ren e)) (hi.map (ren e)) none).run P w = .ok (l, hh, cap) w := by
  have g1 := bound_sound (e := e) (P := P) (w := w) (code := if isS then .sliceAcap else .sliceAlen) h1
  have g2 := bound_sound (e := e) (P := P) (w := w) (code := .sliceB) h2
  cases hi with
  | none =>
    simp only [bound, Option.some.injEq] at h1
    subst h1
    cases lo with
    | none => simp only [bound, Option.some.injEq] at h2; subst h2; simp [Instr.sliceBounds]
    | some v => simp only [Option.map_some] at g2; simp [Instr.sliceBounds, g2]
  | some u =>
    simp only [Option.map_some] at g1
    cases lo with
    | none => simp only [bound, Option.some.injEq] at h2; subst h2; simp [Instr.sliceBounds, g1]
    | some v => simp only [Option.map_some] at g2; simp [Instr.sliceBounds, g1, g2]
theorem bound_le {x : Option Value} {d y r : Nat} (h : bound x d y = some r) (hd : d ≤ y) : r ≤ y := by
  unfold bound at h
  split at h
  · cases h; exact hd
  · split at h <;> try (cases h; done)
    rename_i hin; cases h; omega
  · cases h

theorem Rel.exact (h : Rel p e H w) {b : Nat} {c : List Value} {el : TypeId} {fz : Nat × Nat} (hb : H.get b = some (.cells c el fz false)) : e.σ b = 0 := by
  obtain ⟨r, hr, tail, el', fz', rfl, h1, _⟩ := h.obj _ _ hb
  exact (h1 rfl).2

theorem sliceA_sound (hZ : TOk Z p) (hR : Rel p e H w) {t : TypeId} {x v : Value} {lo hi mx : Option Value} (h : sliceA Z H t x lo hi mx = some v) (hu : Und H.D x) :
    (Instr.sliceAt t (ren e x) (lo.map (ren e)) (hi.map (ren e)) (mx.map (ren e))).run p.P w = .ok (ren e v) w ∧ Und H.D v := by
  simp only [sliceA] at h
  split at h
  · cases h
  rename_i hmx
  have hmx' : mx = none := by simpa using hmx
  subst hmx'
  simp only [Option.bind_eq_bind, Option.bind_eq_some_iff] at h
  obtain ⟨d, hd, h⟩ := h
  have hud := hZ.und _ _ hd
  split at h <;> try (cases h; done)
  · rename_i s
    simp only [Option.bind_eq_some_iff] at h
    obtain ⟨hh, h1, l, h2, h⟩ := h
    cases h
    refine ⟨?_, und_string _⟩
    have := slice_bounds (e := e) (P := p.P) (w := w) (isS := false) h1 h2
    simp [Instr.sliceAt, Instr.slice, r_und hud, this]
  · rename_i el a len cap
    simp only [Option.bind_eq_some_iff] at h
    obtain ⟨hh, h1, l, h2, i, hi', h⟩ := h
    have hsz := hZ.info _ _ hi'
    cases a with
    | none =>
      cases h
      refine ⟨?_, und_nilslice⟩
      have := slice_bounds (e := e) (P := p.P) (w := w) (isS := true) h1 h2
      simp [Instr.sliceAt, Instr.slice, r_und hud, this, r_size hsz]
    | some ad =>
      simp only [Option.bind_eq_some_iff] at h
      obtain ⟨o, ho, h⟩ := h
      cases o with
      | loop => simp at h
      | deferred => simp at h
      | cells c el2 fz g =>
        simp only at h
        have hup := und_slice_ptr hu
        have hlt : H.D ad.block := hR.lt _ _ ho
        have h1' : bound hi len (cap + e.σ ad.block) = some hh := by
          unfold bound at h1 ⊢
          split at h1
          · exact h1
          · split at h1 <;> try (cases h1; done)
            rename_i hin; rw [if_pos ⟨hin.1, by omega⟩]; exact h1
          · cases h1
        have hle := bound_le h2 (Nat.zero_le _)
        have this := slice_bounds (e := e) (P := p.P) (w := w) (isS := true) h1' h2
        split at h
        · split at h
          · rename_i hl; subst hl
            cases h
            refine ⟨?_, ?_⟩
            · simp only [Instr.sliceAt, Instr.slice, ren_slice, Option.map_none, Sem.run_bind, r_und hud, this, Result.andThen_ok, r_size hsz, Nat.sub_zero, Nat.zero_mul]
              split <;> simp [Addr.add]
            · intro e1 e2 ha
              simp only [ren_slice, Env.addr, (ha _ hlt).1, (ha _ hlt).2, Nat.sub_zero]
          · rename_i hl0
            split at h <;> try (cases h; done)
            rename_i hl
            cases h
            refine ⟨?_, und_slice (by rw [addr_add_block]; exact hlt)⟩
            simp only [Instr.sliceAt, Instr.slice, ren_slice, Option.map_none, Sem.run_bind, r_und hud, this, Result.andThen_ok, r_size hsz]
            rw [if_neg (by omega)]
            simp only [Sem.run_pure, Option.map_some, addr_add, addr_add_block]
            rw [show cap + e.σ ad.block - l = cap - l + e.σ ad.block by omega]
        · rename_i hg
          have hg' : g = false := by simpa using hg
          subst hg'
          have hσ := hR.exact ho
          rw [hσ, Nat.add_zero] at this
          cases h
          refine ⟨?_, ?_⟩
          · simp only [Instr.sliceAt, Instr.slice, ren_slice, hσ, Option.map_none, Sem.run_bind, r_und hud, this, Result.andThen_ok, r_size hsz, Nat.add_zero]
            by_cases hcl : cap = l
            · subst hcl; simp [hσ]
            · simp [hcl, addr_add, addr_add_block, hσ]
          · by_cases hcl : cap = l
            · rw [if_pos hcl]; exact und_slice hlt
            · rw [if_neg hcl]; exact und_slice (by rw [addr_add_block]; exact hlt)
  · rename_i n el ad
    simp only [Option.bind_eq_some_iff] at h
    obtain ⟨hh, h1, l, h2, i, hi', o, ho, h⟩ := h
    have hsz := hZ.info _ _ hi'
    cases o with
    | loop => simp at h
    | deferred => simp at h
    | cells c el2 fz g =>
      simp only at h
      split at h <;> try (cases h; done)
      rename_i hg
      have hg' : g = false := by simpa using hg
      subst hg'
      have hσ := hR.exact ho
      have hlt : H.D ad.block := hR.lt _ _ ho
      have this := slice_bounds (e := e) (P := p.P) (w := w) (isS := false) h1 h2
      cases h
      refine ⟨?_, ?_⟩
      · by_cases hcl : n = l
        · subst hcl; simp [Instr.sliceAt, r_und hud, Instr.sureAddr, this, r_size hsz, hσ]
        · simp [Instr.sliceAt, r_und hud, Instr.sureAddr, this, r_size hsz, hσ, hcl, addr_add, addr_add_block]
      · by_cases hcl : n = l
        · rw [if_pos hcl]; exact und_slice hlt
        · rw [if_neg hcl]; exact und_slice (by rw [addr_add_block]; exact hlt)
end Go.Eng
