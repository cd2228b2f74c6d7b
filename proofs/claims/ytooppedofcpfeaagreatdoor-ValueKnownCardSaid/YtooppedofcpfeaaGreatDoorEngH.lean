/- append, followed. -/
import Derived.Test.YtooppedofcpfeaaGreatDoorEngG
set_option linter.all false
namespace Go.Eng
variable [Shift]
variable {p : Par} {e e' : Env} {H H' : Heap} {w w' : World} {Z : Tab}
theorem putCells_nil (c : List Value) (i : Nat) : putCells c i [] = c := rfl

theorem appendA_sound (hZ : TOk Z p) (hR : Rel p e H w) (hs : H.next + 2 < 2 ^ 40) {argTypes : Array TypeId} {ty : TypeId} {s x v : Value} {d : Delta} (h : appendA Z H argTypes s x = some (v, d))
    (hus : Und H.D s) (hux : Und H.D x) :
    ∃ e' w', (Builtin.append_ argTypes ty #[ren e s, ren e x]).run p.P w = .ok (ren e' v) w' ∧ Step p e H w e' (H.app d) w' ∧ Und (H.app d).D v := by
  simp only [appendA, Option.bind_eq_bind, Option.bind_eq_some_iff] at h
  obtain ⟨st, h0, dst, hdst, h⟩ := h
  split at h <;> try (cases h; done)
  rename_i el
  have ust := hZ.und _ _ hdst
  split at h <;> try (cases h; done)
  rename_i base sLen sCap
  simp only [Option.bind_eq_some_iff] at h
  obtain ⟨i, hi, h⟩ := h
  have hinfo := hZ.info _ _ hi
  split at h
  · cases h
  rename_i hxt
  have hx : ∀ xt, argTypes[1]? = some xt → ∃ d, p.P.underlying xt = some d ∧ notInt (some d) = true := by
    intro xt h1
    simp only [secondOk, h1, Bool.not_eq_true', Bool.not_eq_false] at hxt
    cases hu : Z.und xt with
    | none => rw [hu] at hxt; simp [notInt] at hxt
    | some d => rw [hu] at hxt; exact ⟨d, hZ.und _ _ hu, by simpa using hxt⟩
  simp only [Option.bind_eq_some_iff] at h
  obtain ⟨n, hn, new, hnew, h⟩ := h
  have hlen : ∀ W, (Builtin.lenOf (ren e x)).run p.P W = .ok n W := fun W => lenOfA_sound hn
  obtain ⟨hnewR, hnewU⟩ := firstCellsA_sound hR hnew hux
  obtain ⟨hnewD, _⟩ := firstCellsA_sound hR.drew hnew hux
  split at h
  · cases h
  rename_i hnl
  simp only [Bool.or_eq_true, decide_eq_true_eq, not_or, Bool.not_eq_true', Bool.not_eq_false, ne_eq, Decidable.not_not, List.all_eq_true] at hnl
  obtain ⟨hnl', hnc⟩ := hnl
  split at h
  · -- there is room
    rename_i hle
    cases base with
    | none =>
      simp only at h
      split at h <;> try (cases h; done)
      rename_i hemp
      cases h
      refine ⟨e, w, ?_, Step.refl hR, und_nilslice⟩
      simp only [ren_nilslice]
      exact append_fits (P := p.P) (base := none) h0 ust hinfo hx hlen hle hnewR rfl
    | some a =>
      simp only at h
      split at h
      · rename_i hemp
        cases h
        have hnew0 : new = [] := by simpa using hemp
        subst hnew0
        have hp := und_slice_ptr hus
        refine ⟨e, w, ?_, Step.refl hR, fun e1 e2 ha => ?_⟩
        · simp only [ren_slice]
          exact append_fits (P := p.P) (base := some (e.addr a)) h0 ust hinfo hx hlen (by omega) hnewR (by simp [storeCells])
        · have := hus e1 e2 ha
          simp only [ren_slice, Value.slice.injEq] at this ⊢
          exact ⟨this.1, trivial, this.2.2⟩
      · simp only [Option.bind_eq_some_iff] at h
        obtain ⟨d', hd', h⟩ := h
        cases h
        obtain ⟨w', hrun, hstep, b, o, rfl⟩ := storeCellsA_sound hZ hR hd' hnewU
        refine ⟨e, w', ?_, hstep, fun e1 e2 ha => ?_⟩
        · simp only [ren_slice]
          exact append_fits (P := p.P) (base := some (e.addr a)) h0 ust hinfo hx hlen (by omega) hnewR (by simp only [addr_add]; simpa using hrun)
        · have := hus e1 e2 (ha.mono (Heap.D_mono hstep.le hstep.gho))
          simp only [ren_slice, Value.slice.injEq] at this ⊢
          exact ⟨this.1, trivial, this.2.2⟩
  · -- there is none
    rename_i hle
    have hlt : sCap < sLen + n := by omega
    split at h
    · cases h
    rename_i hbig
    simp only [Bool.or_eq_true, decide_eq_true_eq, not_or, Nat.not_lt] at hbig
    simp only [Option.bind_eq_some_iff] at h
    obtain ⟨zero, hz, h⟩ := h
    split at h
    · cases h
    rename_i hzs
    simp only [Bool.or_eq_true, decide_eq_true_eq, not_or, Bool.not_eq_true', Bool.not_eq_false, ne_eq, Decidable.not_not] at hzs
    -- a new row, of what was there and what comes
    have grow : ∀ (base' : Option Addr) (old : List Value) (sCap' : Nat), sCap' < sLen + n → (∀ v ∈ old, Und H.D v) → old.length = sLen * i.size →
        (Builtin.firstCells i.size sLen (.slice base' sLen sCap')).run p.P w.drew = .ok (old.map (ren e)).toArray w.drew →
        ∃ s', (Builtin.append_ argTypes ty #[.slice base' sLen sCap', ren e x]).run p.P w =
            .ok (ren (e.more H.next w.heap.size s') (.slice (some ⟨H.next, 0, none⟩) (sLen + n) (sLen + n))) (w.drew.alloc (.cells (((old ++ new).map (ren e)).toArray ++ Builtin.zeroCells zero.cells s') el)) ∧
          OUnd p H.D (.cells (old ++ new) el (0, 0) true) ∧
          ORel p (e.more H.next w.heap.size s') H.next (.cells (old ++ new) el (0, 0) true) (.cells (((old ++ new).map (ren e)).toArray ++ Builtin.zeroCells zero.cells s') el) := by
      intro base' old sCap' hlt' hou hol hold
      obtain ⟨cap, hcap, hrun⟩ := append_grows (P := p.P) (ty := ty) (base := base') h0 ust hinfo hz hx hlen hlt' hbig.1 hbig.2 hnewD hold
      refine ⟨cap - (sLen + n), ?_, ?_, ?_⟩
      · rw [hrun]
        simp only [ren_slice, Env.addr, hR.shiftN hR.nxt, Nat.add_zero, Env.more_ρ, Env.more_σ]
        rw [show sLen + n + (cap - (sLen + n)) = cap by omega]
        congr 3
        apply Array.ext'
        simp
      · intro u hu
        rcases List.mem_append.1 hu with hu | hu
        · exact hou u hu
        · exact hnewU u hu
      · refine ⟨Builtin.zeroCells zero.cells (cap - (sLen + n)), el, (0, 0), ?_, (fun hg => by cases hg), fun _ => ⟨rfl, .inl rfl⟩, fun _ => ⟨i, hinfo, ?_⟩⟩
        · rw [map_ren_congr (l := old ++ new) (fun u hu => by
            rcases List.mem_append.1 hu with hu | hu
            · exact hou u hu
            · exact hnewU u hu) (e.more_agree H w.heap.size (cap - (sLen + n)))]
        · rw [zeroCells_size, hzs.1]; simp
    cases base with
    | none =>
      simp only at h
      split at h <;> try (cases h; done)
      rename_i hl0
      cases h
      obtain ⟨s', hrun, hu, ho⟩ := grow none [] sCap hlt (fun v hv => by cases hv) (by simp [hl0]) (by simp [Builtin.firstCells])
      refine ⟨_, _, ?_, (Step.drew hR).trans (Step.alloc hR.drew _ _ s' (by simpa using hu) (by simpa using ho) hs), (und_slice hR.newD)⟩
      simpa using hrun
    | some a =>
      simp only at h
      split at h <;> try (cases h; done)
      rename_i hsp
      have hsp' : a.spot = none := by simpa using hsp
      simp only [Option.bind_eq_some_iff] at h
      obtain ⟨o, ho, h⟩ := h
      cases o with
      | loop => simp at h
      | deferred => simp at h
      | cells c el' fz g =>
        simp only [Option.bind_eq_some_iff] at h
        obtain ⟨old, hold, h⟩ := h
        have hoU : ∀ v ∈ old, Und H.D v := fun v hv => hR.und _ _ ho v (takeN_mem hold v hv)
        have hoL := (takeN_some hold).2
        have hfc : ∀ c', (Builtin.firstCells i.size sLen (.slice (some (e.addr a)) sLen c')).run p.P w.drew = .ok (old.map (ren e)).toArray w.drew := by
          intro c'
          simp only [Builtin.firstCells]
          exact hR.drew.loadCells hsp' ho hold
        have hlta : H.D a.block := hR.lt _ _ ho
        split at h
        · rename_i hg
          subst hg
          split at h <;> try (cases h; done)
          rename_i hc
          obtain ⟨hoff, hN0, rfl, rfl, hcl, hsz⟩ := hc
          rw [hZ.n0] at hN0
          cases h
          by_cases hroom : sLen + n ≤ sCap + e.σ a.block
          · -- in place
            obtain ⟨r, hr, tail, el2, fz2, rfl, _, hg2, hg3⟩ := hR.obj _ _ ho
            obtain ⟨rfl, hfz⟩ := hg2 hN0
            have hfz' : fz2 = (0, 0) := by rcases hfz with h | h; exact h; exact absurd rfl h.1
            subst hfz'
            obtain ⟨j, hj, htail⟩ := hg3 rfl
            rw [hinfo] at hj; cases hj
            have he : e.addr a = ⟨e.ρ a.block, 0, none⟩ := by rw [hR.addrS hsp' ho, hoff]
            have hr' : w.heap[e.ρ a.block]? = some (.cells (c.map (ren e) ++ tail.toList).toArray el2 (0, 0)) := by rw [hr]; simp
            have hmul : (sLen + n) * i.size ≤ (sCap + e.σ a.block) * i.size := Nat.mul_le_mul_right _ hroom
            rw [Nat.add_mul, Nat.add_mul] at hmul
            have hrun := run_storeCellsB p.P (e.ρ a.block) (sLen * i.size) el2 (0, 0) (new.map (ren e)) 0 _ w hr' (by simp; omega)
              (fun v hv => by obtain ⟨u, hu', rfl⟩ := List.mem_map.1 hv; rw [isCell_ren]; exact hnc u hu')
              (fun j hj1 hj2 => by omega)
            have happ := append_fits (P := p.P) (ty := ty) (W := w) (base := some (e.addr a)) h0 ust hinfo hx hlen hroom hnewR
              (W' := World.setBlk w (e.ρ a.block) (.cells (putCells (c.map (ren e) ++ tail.toList) (sLen * i.size + 0) (new.map (ren e))).toArray el2 (0, 0)))
              (by
                show (storeCells ((e.addr a).add (sLen * i.size)) _).run p.P w = _
                rw [he, add_spot rfl, Nat.zero_add]; exact hrun)
            obtain ⟨hold1, _⟩ := takeN_some hold
            rw [hoff, List.drop_zero] at hold1
            have hle2 : sLen * i.size ≤ c.length := by
              have h7 := hoL
              rw [hold1, List.length_take] at h7; omega
            have hLk : (c.map (ren e) ++ tail.toList).take (sLen * i.size) = old.map (ren e) := by
              rw [List.take_append_of_le_length (by simp; omega), ← List.map_take, ← hold1]
            refine ⟨e.more H.next (e.ρ a.block) (sCap + e.σ a.block - (sLen + n)),
              World.setBlk w (e.ρ a.block) (.cells (putCells (c.map (ren e) ++ tail.toList) (sLen * i.size + 0) (new.map (ren e))).toArray el2 (0, 0)), ?_,
              Step.growIn hR a.block _ _ (.cells (putCells (c.map (ren e) ++ tail.toList) (sLen * i.size + 0) (new.map (ren e))).toArray el2 (0, 0)) (sCap + e.σ a.block - (sLen + n)) ho hN0 ?_ ?_ hs rfl rfl rfl rfl, (und_slice hR.newD)⟩
            · simp only [ren_slice]
              rw [happ]
              simp only [Env.addr, hR.shiftN hR.nxt, Nat.add_zero, hR.shift ho, Env.more_ρ, Env.more_σ]
              rw [show sLen + n + (sCap + e.σ a.block - (sLen + n)) = sCap + e.σ a.block by omega]
              obtain ⟨b, o, s⟩ := a
              simp only at hoff hsp'
              subst hoff hsp'
              rfl
            · intro u hu
              rcases List.mem_append.1 hu with hu | hu
              · exact hoU u hu
              · exact hnewU u hu
            · refine ⟨((c.map (ren e) ++ tail.toList).drop (sLen * i.size + new.length)).toArray, el2, (0, 0), ?_, (fun hg => by cases hg), fun _ => ⟨rfl, .inl rfl⟩, fun _ => ⟨i, hinfo, ?_⟩⟩
              · rw [← map_ren_congr (l := old ++ new) (fun u hu => by
                  rcases List.mem_append.1 hu with hu | hu
                  · exact hoU u hu
                  · exact hnewU u hu) (e.more_agree H (e.ρ a.block) (sCap + e.σ a.block - (sLen + n)))]
                congr 1
                rw [Nat.add_zero, putCells_eq _ _ _ (by simp; omega), hLk]
                apply Array.ext'
                simp
              · rw [Env.more_σ, Nat.sub_mul, Nat.add_mul, Nat.add_mul]
                simp only [List.size_toArray, List.length_drop, List.length_append, List.length_map, Array.length_toList]
                omega
          · obtain ⟨s', hrun, hu, ho'⟩ := grow (some (e.addr a)) old (sCap + e.σ a.block) (by omega) hoU hoL (hfc _)
            refine ⟨_, _, ?_, ((Step.drew hR).trans (Step.forget hR.drew a.block (by have := hR.sml; have := hlta.1; omega))).trans
              (Step.alloc (hR.drew.forget a.block (by have := hR.sml; have := hlta.1; omega)) _ _ s' hu ho' hs), (und_slice hR.newD)⟩
            simpa using hrun
        · rename_i hg
          have hg' : g = false := by simpa using hg
          subst hg'
          have hσ := hR.exact ho
          cases h
          obtain ⟨s', hrun, hu, ho'⟩ := grow (some (e.addr a)) old sCap hlt hoU hoL (hfc _)
          refine ⟨_, _, ?_, (Step.drew hR).trans (Step.alloc hR.drew _ _ s' hu ho' hs), (und_slice hR.newD)⟩
          simpa [hσ] using hrun
end Go.Eng
