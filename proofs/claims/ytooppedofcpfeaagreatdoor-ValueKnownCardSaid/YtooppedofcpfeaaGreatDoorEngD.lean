/- Memory: loads and stores of followed values are those of the real ones. -/
import Derived.Test.YtooppedofcpfeaaGreatDoorEngC
import Derived.Laws.Entries
set_option linter.all false
namespace Go.Eng
variable [Shift]
variable {p : Par} {e e' : Env} {H H' : Heap} {w w' : World} {Z : Tab}

/-- The evaluator's tables are the program's. -/
structure TOk (Z : Tab) (p : Par) : Prop where
  info : ∀ t i, Z.info t = some i → p.P.info? t = some i
  und : ∀ t d, Z.und t = some d → p.P.underlying t = some d
  fn : ∀ f fn, Z.fn f = some fn → p.P.funcs[f]? = some fn ∧ (∃ c, fn.body = some c ∧ cOk p.G fn.ntmps c = true ∧ fn.ntmps ≤ 2 ^ 30) ∧ (fn.name == "runtime.NumGoroutine") = false
  idx : ∀ f, Z.ext f = some .indexByte → ∀ (s : ByteArray) (c : Int) (w : World), (callFunc f #[.string s, .int .u8 c]).run p.P w =
    .ok (.value (match (List.range s.size).find? fun i => s[i]! == UInt8.ofNat c.toNat with | some i => goInt i | none => goInt (-1))) w
  cmp : ∀ f, Z.ext f = some .compare → ∀ (a b : ByteArray) (w : World), (callFunc f #[.string a, .string b]).run p.P w = .ok (.value (goInt (Extern.BytealgCompare.cmp a b))) w
  n0 : Z.N0 = p.N0
  mixed : p.P.follows .mixedOrders = true

section
variable {P : Program}
theorem r_info {t : TypeId} {i : TypeInfo} (h : P.info? t = some i) (w : World) : (typeInfo t).run P w = .ok i w := by simp [typeInfo, h]
theorem r_und {t : TypeId} {d : TypeDesc} (h : P.underlying t = some d) (w : World) : (underlying t).run P w = .ok d w := run_underlying h w
theorem r_size {t : TypeId} {i : TypeInfo} (h : P.info? t = some i) (w : World) : (sizeOf t).run P w = .ok i.size w := by simp [sizeOf, r_info h]
theorem r_zero {t : TypeId} {i : TypeInfo} {z : Value} (h : P.info? t = some i) (hz : i.zero = some z) (w : World) : (zeroValue t).run P w = .ok z w := by simp [zeroValue, r_info h, hz]
theorem r_isAgg {t : TypeId} {d : TypeDesc} (h : P.underlying t = some d) (w : World) : (isAgg t).run P w = .ok (isAggD d) w := by
  simp only [isAgg, Sem.run_bind, r_und h, Result.andThen_ok]
  cases d <;> rfl
theorem r_loadVar_agg {t : TypeId} {d : TypeDesc} {i : TypeInfo} {a : Addr} {cs : Array Value} (h : P.underlying t = some d) (hd : isAggD d = true) (hi : P.info? t = some i)
    (hl : (loadCells a i.size).run P w = .ok cs w) : (loadVar t a).run P w = .ok (.agg cs) w := by
  simp [loadVar, r_isAgg h, hd, r_size hi, hl]
theorem r_loadVar_one {t : TypeId} {d : TypeDesc} {a : Addr} {v : Value} (h : P.underlying t = some d) (hd : isAggD d = false) (hc : w.cell? a = some v) :
    (loadVar t a).run P w = .ok v w := by
  simp [loadVar, r_isAgg h, hd, hc]
end

theorem takeN_some {l r : List Value} {off n : Nat} (h : takeN l off n = some r) : r = (l.drop off).take n ∧ r.length = n := by
  simp only [takeN] at h
  split at h
  · rename_i hl; cases h; exact ⟨rfl, hl⟩
  · cases h
theorem takeN_get {l r : List Value} {off n : Nat} (h : takeN l off n = some r) (j : Nat) (v : Value) (hv : r[j]? = some v) : l[off + j]? = some v := by
  obtain ⟨rfl, hl⟩ := takeN_some h
  rw [List.getElem?_take] at hv
  split at hv
  · rwa [List.getElem?_drop] at hv
  · cases hv
theorem takeN_mem {l r : List Value} {off n : Nat} (h : takeN l off n = some r) : ∀ v ∈ r, v ∈ l := by
  obtain ⟨rfl, _⟩ := takeN_some h
  exact fun v hv => List.mem_of_mem_drop (List.mem_of_mem_take hv)
theorem takeN_le {l r : List Value} {off n : Nat} (h : takeN l off n = some r) (hn : 0 < n) : off + n ≤ l.length := by
  obtain ⟨rfl, hl⟩ := takeN_some h
  simp at hl; omega

theorem addr_add (e : Env) (a : Addr) (n : Nat) : (e.addr a).add n = e.addr (a.add n) := by
  simp only [Addr.add, Env.addr]; split
  · rfl
  · simp only [Addr.mk.injEq, true_and, and_true]; omega
theorem addr_add_block (a : Addr) (n : Nat) : (a.add n).block = a.block := by simp only [Addr.add]; split <;> rfl
theorem add_spot {a : Addr} (h : a.spot = none) (n : Nat) : (a.add n) = ⟨a.block, a.off + n, none⟩ := by
  obtain ⟨b, o, s⟩ := a; simp only at h; subst h; simp only [Addr.add]; split
  · rename_i hn; subst hn; rfl
  · rfl

theorem Rel.addrS (h : Rel p e H w) {a : Addr} {o : AObj} (hs : a.spot = none) (hb : H.get a.block = some o) : e.addr a = ⟨e.ρ a.block, a.off, none⟩ := by
  rw [h.addr hb]; obtain ⟨b, o, s⟩ := a; simp only at hs; subst hs; rfl

/-- A cell of a followed row is a real one. -/
theorem Rel.cell (h : Rel p e H w) {b : Nat} {c : List Value} {el : TypeId} {fz : Nat × Nat} {g : Bool} (hb : H.get b = some (.cells c el fz g)) {j : Nat} {v : Value} (hv : c[j]? = some v) :
    w.cell? ⟨e.ρ b, j, none⟩ = some (ren e v) := by
  obtain ⟨r, hr, tail, el', fz', rfl, _⟩ := h.obj b _ hb
  have hlt : j < c.length := (List.getElem?_eq_some_iff.1 hv).1
  simp only [World.cell?, hr]
  have hv' := (List.getElem?_eq_some_iff.1 hv).2
  simp [Array.getElem?_append, hlt, hv']
theorem Rel.loadCells (h : Rel p e H w) {a : Addr} {c r : List Value} {el : TypeId} {fz : Nat × Nat} {g : Bool} (hs : a.spot = none) (hb : H.get a.block = some (.cells c el fz g))
    {n : Nat} (hr : takeN c a.off n = some r) : (Go.loadCells (e.addr a) n).run p.P w = .ok (r.map (ren e)).toArray w := by
  have hl := (takeN_some hr).2
  have := run_loadCells_list (P := p.P) w (e.addr a) (r.map (ren e)) (fun j v hv => by
    rw [List.getElem?_map] at hv
    obtain ⟨u, hu, rfl⟩ := Option.map_eq_some_iff.1 hv
    rw [h.addrS hs hb, add_spot rfl]
    exact h.cell hb (takeN_get hr j u hu))
  rwa [List.length_map, hl] at this

theorem loadV_sound (hZ : TOk Z p) (h : Rel p e H w) {t : TypeId} {a : Addr} {v : Value} (hv : loadV Z H t a = some v) :
    (loadVar t (e.addr a)).run p.P w = .ok (ren e v) w ∧ Und H.D v := by
  simp only [loadV] at hv
  split at hv
  · cases hv
  rename_i hs
  have hs' : a.spot = none := by simpa using hs
  simp only [Option.bind_eq_bind, Option.bind_eq_some_iff] at hv
  obtain ⟨o, ho, hv⟩ := hv
  cases o with
  | loop => simp at hv
  | deferred => simp at hv
  | cells c el fz g =>
    have hu : ∀ x ∈ c, Und H.D x := h.und _ _ ho
    simp only [Option.bind_eq_some_iff] at hv
    obtain ⟨d, hd, hv⟩ := hv
    split at hv
    · rename_i hagg
      simp only [Option.bind_eq_some_iff] at hv
      obtain ⟨i, hi, r, hr, hv⟩ := hv
      cases hv
      refine ⟨?_, und_agg fun x hx => hu x (takeN_mem hr x (by simpa using hx))⟩
      rw [r_loadVar_agg (hZ.und _ _ hd) hagg (hZ.info _ _ hi) (h.loadCells hs' ho hr)]
      simp
    · rename_i hagg
      refine ⟨?_, hu v (List.mem_of_getElem? hv)⟩
      refine r_loadVar_one (hZ.und _ _ hd) (by simpa using hagg) ?_
      have := h.cell ho hv
      have he : e.addr a = ⟨e.ρ a.block, a.off, none⟩ := h.addrS hs' ho
      rw [he]; exact this

/-! ### Stores -/
theorem putCells_length : ∀ (vs : List Value) (c : List Value) (i : Nat), (putCells c i vs).length = c.length
  | [], _, _ => rfl
  | v :: vs, c, i => by simp [putCells, putCells_length vs]
theorem putCells_map (f : Value → Value) : ∀ (vs : List Value) (c : List Value) (i : Nat), (putCells c i vs).map f = putCells (c.map f) i (vs.map f)
  | [], _, _ => rfl
  | v :: vs, c, i => by simp [putCells, putCells_map f vs, List.map_set]
theorem putCells_append : ∀ (vs : List Value) (c t : List Value) (i : Nat), i + vs.length ≤ c.length → putCells (c ++ t) i vs = putCells c i vs ++ t
  | [], _, _, _, _ => rfl
  | v :: vs, c, t, i, h => by
    simp only [List.length_cons] at h
    simp only [putCells]
    rw [List.set_append_left _ _ (by omega), putCells_append vs _ _ _ (by simp; omega)]
theorem putCells_mem : ∀ (vs : List Value) (c : List Value) (i : Nat) (x : Value), x ∈ putCells c i vs → x ∈ c ∨ x ∈ vs
  | [], _, _, _, h => .inl h
  | v :: vs, c, i, x, h => by
    rcases putCells_mem vs _ _ x h with h1 | h1
    · rcases List.mem_or_eq_of_mem_set h1 with h2 | h2
      · exact .inl h2
      · exact .inr (by simp [h2])
    · exact .inr (by simp [h1])

theorem isCell_ren (v : Value) : isCell (ren e v) = isCell v := by
  cases v with
  | pointer a => cases a <;> simp [isCell]
  | slice a l c => cases a <;> simp [isCell]
  | map r => cases r <;> simp [isCell]
  | chan r => cases r <;> simp [isCell]
  | _ => simp [isCell]
theorem isCell_one {v : Value} (h : isCell v = true) : v.oneCell' = true := by cases v <;> simp_all [isCell, Value.oneCell']
theorem cells_ren (v : Value) : (ren e v).cells = v.cells.map (ren e) := by
  cases v with
  | pointer a => cases a <;> simp [Value.cells]
  | slice a l c => cases a <;> simp [Value.cells]
  | map r => cases r <;> simp [Value.cells]
  | chan r => cases r <;> simp [Value.cells]
  | _ => simp [Value.cells]
theorem und_cells {n : Nat → Prop} {v : Value} (h : Und n v) : ∀ x ∈ v.cells.toList, Und n x := by
  cases v with
  | agg cs => exact fun x hx => und_agg_inv h x (by simpa [Value.cells] using hx)
  | _ => intro x hx; simp only [Value.cells, List.mem_singleton] at hx; rw [hx]; exact h

def World.setBlk (w : World) (r : Nat) (o : Obj) : World := { w with heap := w.heap.setIfInBounds r o }
theorem setCell_blk (w : World) (r j : Nat) (v : Value) {cur : Array Value} {el : TypeId} {fz : Nat × Nat} (h : w.heap[r]? = some (.cells cur el fz)) :
    w.setCell ⟨r, j, none⟩ v = World.setBlk w r (.cells (cur.setIfInBounds j v) el fz) := by
  simp only [World.setCell, World.setBlk]
  congr 1
  apply Array.ext_getElem?
  intro k
  rw [Array.getElem?_modify]
  by_cases hk : r = k
  · subst hk
    have hin := (Array.getElem?_eq_some_iff.1 h).1
    simp only [if_true, h]
    simp [hin]
  · rw [if_neg hk, Array.getElem?_setIfInBounds_ne hk]
theorem setBlk_setBlk (w : World) (r : Nat) (o o' : Obj) : World.setBlk (World.setBlk w r o) r o' = World.setBlk w r o' := by
  simp [World.setBlk]
theorem setBlk_self (w : World) (r : Nat) (o : Obj) (h : w.heap[r]? = some o) : World.setBlk w r o = w := by
  have hin := Array.getElem?_eq_some_iff.1 h
  simp only [World.setBlk]
  have : w.heap.setIfInBounds r o = w.heap := by
    apply Array.ext_getElem?
    intro k
    by_cases hk : r = k
    · subst hk; simp [hin.1, hin.2]
    · rw [Array.getElem?_setIfInBounds_ne hk]
  rw [this]
theorem setBlk_get (w : World) (r : Nat) (o o0 : Obj) (h : w.heap[r]? = some o0) : (World.setBlk w r o).heap[r]? = some o := by
  have hin := (Array.getElem?_eq_some_iff.1 h).1
  simp [World.setBlk, hin]

theorem run_storeCellsB (P : Program) (r o : Nat) (el : TypeId) (fz : Nat × Nat) : ∀ (vs : List Value) (i : Nat) (cur : List Value) (w : World), w.heap[r]? = some (.cells cur.toArray el fz) →
    o + i + vs.length ≤ cur.length → (∀ v ∈ vs, isCell v = true) → (∀ j, o + i ≤ j → j < o + i + vs.length → ¬ (fz.1 ≤ j ∧ j < fz.2)) →
    (storeCells ⟨r, o, none⟩ vs i).run P w = .ok () (World.setBlk w r (.cells (putCells cur (o + i) vs).toArray el fz))
  | [], i, cur, w, h, _, _, _ => by simp only [storeCells, putCells]; rw [setBlk_self w r _ h]; rfl
  | v :: vs, i, cur, w, h, hl, h1, hf => by
    simp only [List.length_cons] at hl hf
    have hadd : (⟨r, o, none⟩ : Addr).add i = ⟨r, o + i, none⟩ := add_spot rfl i
    have hc : ∃ u, w.cell? ⟨r, o + i, none⟩ = some u := by
      refine ⟨cur[o + i]'(by omega), ?_⟩
      simp only [World.cell?, h]
      simp
    obtain ⟨u, hc⟩ := hc
    have hfz : w.frozen? ⟨r, o + i, none⟩ = false := by
      have := hf (o + i) (Nat.le_refl _) (by omega)
      simp only [World.frozen?, h]
      simp; omega
    have hst : (store ⟨r, o + i, none⟩ v).run P w = .ok () (w.setCell ⟨r, o + i, none⟩ v) := by
      rw [run_store P w _ v _ (isCell_one (h1 v (by simp)))]; simp [hc, hfz]
    simp only [storeCells, hadd, Sem.run_bind, hst, Result.andThen_ok]
    rw [setCell_blk w r (o + i) v h]
    have hg := setBlk_get w r (.cells (cur.toArray.setIfInBounds (o + i) v) el fz) _ h
    have hset : cur.toArray.setIfInBounds (o + i) v = (cur.set (o + i) v).toArray := by simp
    rw [hset] at hg ⊢
    rw [run_storeCellsB P r o el fz vs (i + 1) (cur.set (o + i) v) _ hg (by simp; omega) (fun x hx => h1 x (by simp [hx])) (fun j hj1 hj2 => hf j (by omega) (by omega))]
    rw [setBlk_setBlk]
    simp only [putCells, Nat.add_assoc]

theorem storeCellsA_sound (hZ : TOk Z p) (h : Rel p e H w) {a : Addr} {vs : List Value} {d : Delta} (hd : storeCellsA Z H a vs = some d) (hu : ∀ v ∈ vs, Und H.D v) :
    ∃ w', (storeCells (e.addr a) (vs.map (ren e))).run p.P w = .ok () w' ∧ Step p e H w e (H.app d) w' ∧ ∃ b o, d = .set b o := by
  simp only [storeCellsA] at hd
  split at hd
  · cases hd
  rename_i hs
  have hs' : a.spot = none := by simpa using hs
  split at hd
  · cases hd
  rename_i hn
  rw [hZ.n0] at hn
  simp only [Option.bind_eq_bind, Option.bind_eq_some_iff] at hd
  obtain ⟨o, ho, hd⟩ := hd
  cases o with
  | loop => simp at hd
  | deferred => simp at hd
  | cells c el fz g =>
    simp only at hd
    split at hd
    · rename_i hcond
      cases hd
      simp only [Bool.and_eq_true, decide_eq_true_eq, List.all_eq_true, Bool.or_eq_true] at hcond
      obtain ⟨⟨hlen, hcell⟩, hfz⟩ := hcond
      obtain ⟨r, hr, tail, el', fz', rfl, hg1, hg2, hg3⟩ := h.obj _ _ ho
      obtain ⟨rfl, hfz'⟩ := hg2 (by omega)
      have he : e.addr a = ⟨e.ρ a.block, a.off, none⟩ := h.addrS hs' ho
      have hr' : w.heap[e.ρ a.block]? = some (.cells (c.map (ren e) ++ tail.toList).toArray el' fz') := by rw [hr]; simp
      have hrun := run_storeCellsB p.P (e.ρ a.block) a.off el' fz' (vs.map (ren e)) 0 _ w hr' (by simp; omega)
        (fun v hv => by obtain ⟨u, hu', rfl⟩ := List.mem_map.1 hv; rw [isCell_ren]; exact hcell u hu')
        (fun j hj1 hj2 => by
          simp only [Nat.add_zero, List.length_map] at hj1 hj2
          rcases hfz' with rfl | ⟨_, hb1, hb2⟩ <;> omega)
      refine ⟨_, by rw [he]; exact hrun, ?_, _, _, rfl⟩
      refine Step.put h a.block _ _ _ ho (by omega) ?_ ?_ rfl rfl rfl rfl
      · intro x hx
        rcases putCells_mem _ _ _ x hx with hx | hx
        · exact h.und _ _ ho x hx
        · exact hu x hx
      · refine ⟨tail, el', fz', ?_, hg1, fun _ => ⟨rfl, ?_⟩, hg3⟩
        · congr 1
          rw [Nat.add_zero, putCells_append _ _ _ _ (by simp; omega), putCells_map]
          apply Array.ext'
          simp
        · rw [putCells_length]; exact hfz'
    · cases hd

theorem storeV_sound (hZ : TOk Z p) (h : Rel p e H w) {t : TypeId} {a : Addr} {v : Value} {d : Delta} (hd : storeV Z H t a v = some d) (hu : Und H.D v) :
    ∃ w', (storeVar t (e.addr a) (ren e v)).run p.P w = .ok () w' ∧ Step p e H w e (H.app d) w' := by
  simp only [storeV, Option.bind_eq_bind, Option.bind_eq_some_iff] at hd
  obtain ⟨i, hi, hd⟩ := hd
  split at hd
  · rename_i hl
    obtain ⟨w', hrun, hstep, _⟩ := storeCellsA_sound hZ h hd (und_cells hu)
    refine ⟨w', ?_, hstep⟩
    have hsz : ¬ (ren e v).cells.size ≠ i.size := by rw [cells_ren]; simpa using hl
    simp only [storeVar, Sem.run_bind, r_size (hZ.info _ _ hi), Result.andThen_ok, if_neg hsz]
    rw [cells_ren, Array.toList_map]
    simpa using hrun
  · cases hd
end Go.Eng
