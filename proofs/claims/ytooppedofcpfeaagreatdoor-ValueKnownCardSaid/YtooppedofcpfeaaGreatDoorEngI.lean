/- Values and rows that are put together. -/
import Derived.Test.YtooppedofcpfeaaGreatDoorEngH
import Derived.IntWalk
set_option linter.all false
namespace Go.Eng
variable [Shift]
variable {p : Par} {e e' : Env} {H H' : Heap} {w w' : World} {Z : Tab}

theorem fold_set (off : Nat) : ∀ (vs : List Value) (k : Nat) (cs : Array Value), (vs.zipIdx k).foldl (fun (cs : Array Value) (x : Value × Nat) => cs.setIfInBounds (off + x.2) x.1) cs = (putCells cs.toList (off + k) vs).toArray
  | [], k, cs => by simp [putCells]
  | v :: vs, k, cs => by
    simp only [List.zipIdx_cons, List.foldl_cons, putCells]
    rw [fold_set off vs (k + 1) _]
    congr 1
    simp [Nat.add_assoc]

theorem fill_sound (place : Nat → Option (Nat × Nat)) : ∀ (parts : List (Nat × Value)) (cells r : List Value), fillA place cells parts = some r →
    Instr.fill place (cells.map (ren e)).toArray (parts.map fun x => (x.1, ren e x.2)) = some (r.map (ren e)).toArray
  | [], cells, r, h => by simp only [fillA, Option.some.injEq] at h; subst h; simp [Instr.fill]
  | (i, v) :: rest, cells, r, h => by
    simp only [fillA] at h
    split at h
    · cases h
    · rename_i off size hp
      split at h
      · cases h
      · rename_i hc
        simp only [Bool.or_eq_true, decide_eq_true_eq, not_or, ne_eq, Decidable.not_not, Nat.not_lt] at hc
        have ih := fill_sound place rest _ r h
        simp only [List.map_cons, Instr.fill, hp]
        have hcs : (ren e v).cells.size = size := by rw [cells_ren]; simpa using hc.1
        rw [if_neg (by rw [hcs]; simp; have := hc.2; rw [hc.1] at this; omega)]
        have hz : ((ren e v).cells.zipIdx.foldl (fun (cs : Array Value) (x : Value × Nat) => match x with | (c, j) => cs.setIfInBounds (off + j) c) (cells.map (ren e)).toArray) = ((putCells cells off v.cells.toList).map (ren e)).toArray := by
          rw [← Array.foldl_toList, Array.toList_zipIdx]
          have := fold_set off (ren e v).cells.toList 0 (cells.map (ren e)).toArray
          rw [Nat.add_zero] at this
          rw [putCells_map]
          rw [cells_ren, Array.toList_map] at this ⊢
          exact this
        rw [hz]
        exact ih
theorem fill_mem (place : Nat → Option (Nat × Nat)) {n : Nat → Prop} : ∀ (parts : List (Nat × Value)) (cells r : List Value), fillA place cells parts = some r → (∀ v ∈ cells, Und n v) → (∀ x ∈ parts, Und n x.2) → ∀ v ∈ r, Und n v
  | [], cells, r, h, hc, _ => by simp only [fillA, Option.some.injEq] at h; subst h; exact hc
  | (i, v) :: rest, cells, r, h, hc, hp => by
    simp only [fillA] at h
    split at h
    · cases h
    · split at h
      · cases h
      · refine fill_mem place rest _ r h (fun x hx => ?_) (fun x hx => hp x (by simp [hx]))
        rcases putCells_mem _ _ _ x hx with hx | hx
        · exact hc x hx
        · exact und_cells (hp (i, v) (by simp)) x hx
theorem plain_cells {n : Nat} {z : Value} (h : plain n z = true) : z.cells.toList.map (ren e) = z.cells.toList := by
  have := congrArg Value.cells (ren_plain (e := e) n z h)
  rw [cells_ren] at this
  have := congrArg Array.toList this
  simpa using this
theorem und_plain_cells {n : Nat} {m : Nat → Prop} {z : Value} (h : plain n z = true) : ∀ v ∈ z.cells.toList, Und m v := und_cells (und_plain h)

theorem fill_congr {f g : Nat → Option (Nat × Nat)} (h : ∀ i, f i = g i) (cells : Array Value) (parts : List (Nat × Value)) : Instr.fill f cells parts = Instr.fill g cells parts := by
  rw [show f = g from funext h]

theorem run_mapM_list {α β : Type} {P : Program} (f : α → Sem β) (g : α → β) : ∀ (l : List α), (∀ x ∈ l, ∀ w, (f x).run P w = .ok (g x) w) → ∀ w, (l.mapM f).run P w = .ok (l.map g) w
  | [], _, w => by simp
  | x :: l, h, w => by
    simp only [List.mapM_cons, Sem.run_bind, h x (by simp), Result.andThen_ok, run_mapM_list f g l (fun y hy => h y (by simp [hy])), Sem.run_pure, List.map_cons]
theorem run_mapM_arr {α β : Type} {P : Program} (f : α → Sem β) (g : α → β) (a : Array α) (h : ∀ x ∈ a, ∀ w, (f x).run P w = .ok (g x) w) (w : World) : (a.mapM f).run P w = .ok (a.map g) w := by
  have h1 := run_mapM_list (P := P) f g a.toList (fun x hx => h x (by simpa using hx)) w
  have h2 : a.mapM f = List.toArray <$> a.toList.mapM f := Array.mapM_eq_mapM_toList
  rw [h2, Sem.run_map, h1, Result.andThen_ok]
  congr 1
  apply Array.ext'
  simp

theorem buildA_sound (hZ : TOk Z p) {t : TypeId} {parts : Array (Nat × Value)} {v : Value} {n : Nat → Prop} (h : buildA Z t parts.toList = some v) (hu : ∀ x ∈ parts.toList, Und n x.2) :
    (Instr.build t (parts.map fun x => (x.1, ren e x.2))).run p.P w = .ok (ren e v) w ∧ Und n v := by
  simp only [buildA, Option.bind_eq_bind, Option.bind_eq_some_iff] at h
  obtain ⟨i, hi, z, hz, h⟩ := h
  split at h
  · cases h
  rename_i hp
  have hp' : plain 3 z = true := by simpa using hp
  simp only [Option.bind_eq_some_iff] at h
  obtain ⟨d, hd, h⟩ := h
  have hinfo := hZ.info _ _ hi
  have hud := hZ.und _ _ hd
  split at h
  · rename_i fs
    simp only [Option.bind_eq_some_iff] at h
    obtain ⟨cells, hf, h⟩ := h
    split at h <;> try (cases h; done)
    rename_i hall
    cases h
    refine ⟨?_, und_agg fun x hx => fill_mem _ _ _ _ hf (und_plain_cells hp') hu x (by simpa using hx)⟩
    have hpl : (fs.mapM fun (f : Field) => (do pure (f.offset, ← sizeOf f.type) : Sem (Nat × Nat))).run p.P w =
        .ok (fs.map fun (f : Field) => (f.offset, ((Z.info f.type).map (·.size)).getD 0)) w := by
      refine run_mapM_arr _ _ _ (fun f hf w => ?_) w
      have := (Array.all_eq_true_iff_forall_mem.1 hall) f hf
      obtain ⟨j, hj⟩ := Option.isSome_iff_exists.1 this
      simp [r_size (hZ.info _ _ hj), hj]
    have hfill := fill_sound (e := e) _ _ _ _ hf
    rw [plain_cells hp'] at hfill
    have hg : ∀ k : Nat, ((fs.map fun (f : Field) => (f.offset, ((Z.info f.type).map (·.size)).getD 0))[k]? : Option (Nat × Nat)) = (fs[k]?).bind fun (f : Field) => (Z.info f.type).map fun j => (f.offset, j.size) := by
      intro k
      rw [Array.getElem?_map]
      cases hk : fs[k]? with
      | none => rfl
      | some f =>
        have := (Array.all_eq_true_iff_forall_mem.1 hall) f (Array.mem_of_getElem? hk)
        obtain ⟨j, hj⟩ := Option.isSome_iff_exists.1 this
        simp [hj]
    simp only [Instr.build, Sem.run_bind, r_zero hinfo hz, Result.andThen_ok, r_und hud]
    rw [hpl]
    simp only [Result.andThen_ok]
    rw [fill_congr hg, Array.toList_map]
    rw [show z.cells = z.cells.toList.toArray by simp, hfill]
    simp
  · rename_i k el
    simp only [Option.bind_eq_some_iff] at h
    obtain ⟨j, hj, cells, hf, h⟩ := h
    cases h
    refine ⟨?_, und_agg fun x hx => fill_mem _ _ _ _ hf (und_plain_cells hp') hu x (by simpa using hx)⟩
    have hfill := fill_sound (e := e) _ _ _ _ hf
    rw [plain_cells hp'] at hfill
    simp only [Instr.build, Sem.run_bind, r_zero hinfo hz, Result.andThen_ok, r_und hud, r_size (hZ.info _ _ hj)]
    rw [Array.toList_map, show z.cells = z.cells.toList.toArray by simp, hfill]
    simp
  · cases h

theorem zerosA_length (z : List Value) : ∀ n, (zerosA z n).length = n * z.length
  | 0 => by simp [zerosA]
  | n + 1 => by simp [zerosA, zerosA_length z n, Nat.succ_mul]; omega
theorem zerosA_get (z : List Value) (hz : 0 < z.length) : ∀ (n i : Nat), i < n * z.length → (zerosA z n)[i]? = z[i % z.length]?
  | 0, i, h => by simp at h
  | n + 1, i, h => by
    simp only [zerosA]
    by_cases hi : i < z.length
    · rw [List.getElem?_append_left hi, Nat.mod_eq_of_lt hi]
    · rw [List.getElem?_append_right (by omega), zerosA_get z hz n (i - z.length) (by rw [Nat.succ_mul] at h; omega)]
      rw [Nat.mod_eq_sub_mod (by omega : i ≥ z.length)]
theorem zerosA_mem (z : List Value) : ∀ (n : Nat) (v : Value), v ∈ zerosA z n → v ∈ z
  | 0, v, h => by simp [zerosA] at h
  | n + 1, v, h => by
    simp only [zerosA, List.mem_append] at h
    exact h.elim id (zerosA_mem z n v)
theorem zeros_eq (z : Array Value) (n s : Nat) (hs : z.size = s) : (Array.range (n * s)).map (fun i => z[i % z.size]!) = (zerosA z.toList n).toArray := by
  apply Array.ext'
  apply List.ext_getElem?
  intro i
  have hl : z.toList.length = s := by simpa using hs
  by_cases hi : i < n * s
  · have hpos : 0 < s := by
      rcases Nat.eq_zero_or_pos s with h | h
      · rw [h] at hi; simp at hi
      · exact h
    have hlt : i % s < z.size := by rw [hs]; exact Nat.mod_lt _ hpos
    rw [zerosA_get z.toList (by omega) n i (by rw [hl]; exact hi)]
    simp [hi, hs, hl]
    rw [getElem!_pos z (i % s) hlt, Array.getElem?_eq_getElem hlt]
  · have h1 : (zerosA z.toList n)[i]? = none := List.getElem?_eq_none (by rw [zerosA_length, hl]; omega)
    have h2 : ((Array.range (n * s)).map fun i => z[i % z.size]!).toList[i]? = none := List.getElem?_eq_none (by simp; omega)
    rw [h1, h2]

theorem buildSliceA_sound (hZ : TOk Z p) (hR : Rel p e H w) (hs : H.next + 2 < 2 ^ 40) {t : TypeId} {len : Nat} {parts : Array (Nat × Value)} {v : Value} {d : Delta} (h : buildSliceA Z H t len parts.toList = some (v, d))
    (hu : ∀ x ∈ parts.toList, Und H.D x.2) :
    ∃ e' w', (Instr.buildSlice t len (parts.map fun x => (x.1, ren e x.2))).run p.P w = .ok (ren e' v) w' ∧ Step p e H w e' (H.app d) w' ∧ Und (H.app d).D v := by
  simp only [buildSliceA, Option.bind_eq_bind, Option.bind_eq_some_iff] at h
  obtain ⟨d1, hd, h⟩ := h
  split at h <;> try (cases h; done)
  rename_i el
  simp only [Option.bind_eq_some_iff] at h
  obtain ⟨i, hi, z, hz, h⟩ := h
  split at h
  · cases h
  rename_i hc
  simp only [Bool.or_eq_true, decide_eq_true_eq, not_or, ne_eq, Decidable.not_not, Nat.not_lt, Bool.not_eq_true', Bool.not_eq_false] at hc
  obtain ⟨⟨hp, hzs⟩, hbig⟩ := hc
  simp only [Option.bind_eq_some_iff] at h
  obtain ⟨cells, hf, h⟩ := h
  cases h
  have hud := hZ.und _ _ hd
  have hinfo := hZ.info _ _ hi
  have hfill := fill_sound (e := e) _ _ _ _ hf
  have hzm : (zerosA z.cells.toList len).map (ren e) = zerosA z.cells.toList len := by
    conv => rhs; rw [← List.map_id (zerosA z.cells.toList len)]
    refine List.map_congr_left fun x hx => ?_
    have hx' := zerosA_mem _ _ _ hx
    have := plain_cells (e := e) hp
    have h2 : z.cells.toList.map (ren e) = z.cells.toList.map id := by rw [this, List.map_id]
    exact List.map_inj_left.1 h2 x hx'
  rw [hzm] at hfill
  have hcu : ∀ x ∈ cells, Und H.D x := fill_mem _ _ _ _ hf (fun x hx => und_plain_cells hp x (zerosA_mem _ _ _ hx)) hu
  refine ⟨_, _, ?_, Step.row hR (el := el) hcu hs, (und_slice hR.newD)⟩
  have hrow : ((Array.range (len * i.size)).map fun k => (if len * i.size = 0 then #[] else z.cells)[k % (if len * i.size = 0 then #[] else z.cells).size]!) = (zerosA z.cells.toList len).toArray := by
    by_cases h0 : len * i.size = 0
    · rw [if_pos h0, h0]
      have : (zerosA z.cells.toList len).length = 0 := by rw [zerosA_length]; simpa [hzs] using h0
      rw [List.length_eq_zero_iff.1 this]
      simp
    · simp only [if_neg h0]
      exact zeros_eq z.cells len i.size hzs
  simp only [Instr.buildSlice, Sem.run_bind, r_und hud, Result.andThen_ok, r_size hinfo]
  rw [if_neg (by omega)]
  by_cases h0 : len * i.size = 0
  · simp only [if_pos h0] at hrow ⊢
    simp only [Sem.run_bind, Sem.run_pure, Result.andThen_ok]
    rw [hrow, Array.toList_map, hfill]
    simp [run_newRow, Env.addr, hR.shiftN hR.nxt, Nat.add_zero]
  · simp only [if_neg h0] at hrow ⊢
    simp only [Sem.run_bind, Sem.run_pure, Result.andThen_ok, r_zero hinfo hz]
    rw [hrow, Array.toList_map, hfill]
    simp [run_newRow, Env.addr, hR.shiftN hR.nxt, Nat.add_zero]

theorem makeSliceA_sound (hZ : TOk Z p) (hR : Rel p e H w) (hs : H.next + 2 < 2 ^ 40) {t : TypeId} {len cap v : Value} {d : Delta} (h : makeSliceA Z H t len cap = some (v, d)) :
    ∃ e' w', (Instr.makeSlice t (ren e len) (ren e cap)).run p.P w = .ok (ren e' v) w' ∧ Step p e H w e' (H.app d) w' ∧ Und (H.app d).D v := by
  simp only [makeSliceA, Option.bind_eq_bind, Option.bind_eq_some_iff] at h
  obtain ⟨d1, hd, h⟩ := h
  split at h <;> try (cases h; done)
  rename_i el
  simp only [Option.bind_eq_some_iff] at h
  obtain ⟨i, hi, h⟩ := h
  split at h <;> try (cases h; done)
  rename_i k1 l
  split at h <;> try (cases h; done)
  rename_i k2 c
  split at h <;> try (cases h; done)
  rename_i hc
  obtain ⟨h0, hlc, hc30, hby⟩ := hc
  simp only [Option.bind_eq_some_iff] at h
  obtain ⟨z, hz, h⟩ := h
  split at h
  · cases h
  rename_i hcc
  simp only [Bool.or_eq_true, decide_eq_true_eq, not_or, ne_eq, Decidable.not_not, Bool.not_eq_true', Bool.not_eq_false] at hcc
  obtain ⟨⟨hp, hzs⟩, hi0⟩ := hcc
  cases h
  have hud := hZ.und _ _ hd
  have hinfo := hZ.info _ _ hi
  have hzu : ∀ x ∈ zerosA z.cells.toList c.toNat, Und H.D x := fun x hx => und_plain_cells hp x (zerosA_mem _ _ _ hx)
  have hzm : (zerosA z.cells.toList c.toNat).map (ren e) = zerosA z.cells.toList c.toNat := by
    conv => rhs; rw [← List.map_id (zerosA z.cells.toList c.toNat)]
    refine List.map_congr_left fun x hx => ?_
    have hx' := zerosA_mem _ _ _ hx
    have := plain_cells (e := e) hp
    have h2 : z.cells.toList.map (ren e) = z.cells.toList.map id := by rw [this, List.map_id]
    exact List.map_inj_left.1 h2 x hx'
  refine ⟨_, _, ?_, Step.row hR (el := el) hzu hs, (und_slice hR.newD)⟩
  have w1 : IntKind.i64.wrap l = l := IntWalk.i64_in l (by omega)
  have w2 : IntKind.i64.wrap c = c := IntWalk.i64_in c (by omega)
  have hb : ¬ ((i.bytes : Int) * c > 2 ^ 48) := by
    obtain ⟨m, rfl⟩ := Int.eq_ofNat_of_zero_le (by omega : 0 ≤ c)
    have h1 : m ≤ 2 ^ 30 := by omega
    have h2 := Nat.mul_le_mul hby h1
    have h3 : ((i.bytes : Int) * (m : Int)) = ((i.bytes * m : Nat) : Int) := by simp
    rw [h3]
    omega
  have ht : ((decide (c < 0) || decide ((i.bytes : Int) * c > 2 ^ 48)) || decide (l < 0) || decide (l > c)) = false := by
    simp only [Bool.or_eq_false_iff, decide_eq_false_iff_not]
    exact ⟨⟨⟨by omega, hb⟩, by omega⟩, by omega⟩
  have hn : ¬ (c.toNat * i.size = 0 ∧ 0 < c.toNat) := by
    rintro ⟨h1, h2⟩
    rcases Nat.mul_eq_zero.1 h1 with h | h
    · omega
    · exact hi0 h
  have hrow : ((Array.range (c.toNat * i.size)).map fun k => (if c.toNat * i.size = 0 then #[] else z.cells)[k % (if c.toNat * i.size = 0 then #[] else z.cells).size]!) = (zerosA z.cells.toList c.toNat).toArray := by
    by_cases h0 : c.toNat * i.size = 0
    · rw [if_pos h0, h0]
      have : (zerosA z.cells.toList c.toNat).length = 0 := by rw [zerosA_length]; simpa [hzs] using h0
      rw [List.length_eq_zero_iff.1 this]
      simp
    · simp only [if_neg h0]
      exact zeros_eq z.cells c.toNat i.size hzs
  simp only [Instr.makeSlice, ren_int, asInt, asIntOf, Sem.run_bind, r_und hud, Result.andThen_ok, Sem.run_pure, r_info hinfo, w1, w2, ht, Bool.false_eq_true, if_false, run_askRoom, r_size hinfo]
  by_cases h0 : c.toNat * i.size = 0
  · simp only [if_pos h0] at hrow ⊢
    simp only [Sem.run_bind, Sem.run_pure, Result.andThen_ok]
    rw [hrow]
    simp [run_newRow, Env.addr, hR.shiftN hR.nxt, Nat.add_zero, hzm]
  · simp only [if_neg h0] at hrow ⊢
    simp only [Sem.run_bind, Sem.run_pure, Result.andThen_ok, r_zero hinfo hz]
    rw [hrow]
    simp [run_newRow, Env.addr, hR.shiftN hR.nxt, Nat.add_zero, hzm]
end Go.Eng
