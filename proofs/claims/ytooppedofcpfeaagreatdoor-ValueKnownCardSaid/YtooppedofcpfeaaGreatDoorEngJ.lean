/- copy, bytes as a string, calls; and each operation. -/
import Derived.Test.YtooppedofcpfeaaGreatDoorEngI
import Derived.Lib.UnsafeStr
set_option linter.all false
namespace Go.Eng
variable [Shift]
variable {p : Par} {e e' : Env} {H H' : Heap} {w w' : World} {Z : Tab}

theorem copyA_sound (hZ : TOk Z p) (hR : Rel p e H w) {argTypes : Array TypeId} {ty : TypeId} {s x v : Value} {d : Delta} (h : copyA Z H argTypes s x = some (v, d)) (hux : Und H.D x) :
    ∃ w', (Builtin.copy_ argTypes ty #[ren e s, ren e x]).run p.P w = .ok (ren e v) w' ∧ Step p e H w e (H.app d) w' ∧ Und (H.app d).D v := by
  simp only [copyA, Option.bind_eq_bind, Option.bind_eq_some_iff] at h
  obtain ⟨st, h0, dst, hdst, h⟩ := h
  split at h <;> try (cases h; done)
  rename_i el
  have ust := hZ.und _ _ hdst
  split at h <;> try (cases h; done)
  rename_i base dLen dCap
  simp only [Option.bind_eq_some_iff] at h
  obtain ⟨i, hi, m, hm, cells, hc, h⟩ := h
  have hinfo := hZ.info _ _ hi
  have hlen := lenOfA_sound (e := e) (P := p.P) (w := w) hm
  obtain ⟨hcR, hcU⟩ := firstCellsA_sound hR hc hux
  cases base with
  | none =>
    cases h
    refine ⟨w, ?_, Step.refl hR, und_int _ _⟩
    simp [Builtin.copy_, h0, r_und ust, hlen, r_size hinfo, hcR, goInt]
  | some a =>
    simp only at h
    split at h
    · rename_i hemp
      cases h
      have hnil : cells = [] := by simpa using hemp
      subst hnil
      refine ⟨w, ?_, Step.refl hR, und_int _ _⟩
      simp [Builtin.copy_, h0, r_und ust, hlen, r_size hinfo, hcR, goInt, storeCells]
    · simp only [Option.bind_eq_some_iff] at h
      obtain ⟨d', hd', h⟩ := h
      cases h
      obtain ⟨w', hrun, hstep, _⟩ := storeCellsA_sound hZ hR hd' hcU
      refine ⟨w', ?_, hstep, und_int _ _⟩
      simp [Builtin.copy_, h0, r_und ust, hlen, r_size hinfo, hcR, goInt, hrun]

theorem byteOf_some {v : Value} {b : UInt8} (h : byteOf? v = some b) : v = .int .u8 b.toNat := by
  unfold byteOf? at h
  split at h <;> try (cases h; done)
  rename_i n
  split at h <;> try (cases h; done)
  rename_i hn
  cases h
  obtain ⟨m, rfl⟩ := Int.eq_ofNat_of_zero_le hn.1
  have hm : m < 256 := by omega
  simp [Nat.mod_eq_of_lt hm]
theorem mapM_byteOf : ∀ (r : List Value) (bs : List UInt8), r.mapM byteOf? = some bs → r = bs.map fun b => .int .u8 b.toNat
  | [], bs, h => by simp at h; subst h; rfl
  | x :: r, bs, h => by
    simp only [List.mapM_cons, Option.bind_eq_bind, Option.bind_eq_some_iff] at h
    obtain ⟨b1, hb1, bs', hb2, hb3⟩ := h
    cases hb3
    rw [byteOf_some hb1, mapM_byteOf r bs' hb2]
    rfl

theorem unsafeStrA_sound (hZ : TOk Z p) (hR : Rel p e H w) {argTypes : Array TypeId} {ty : TypeId} {a : Addr} {n : Int} {v : Value} {d : Delta} (h : unsafeStrA Z H argTypes a n = some (v, d)) :
    ∃ w', (Builtin.unsafeString_ argTypes ty #[.pointer (some (e.addr a)), .int .i64 n]).run p.P w = .ok (ren e v) w' ∧ Step p e H w e (H.app d) w' ∧ Und (H.app d).D v := by
  simp only [unsafeStrA] at h
  split at h
  · cases h
  rename_i hc
  simp only [Bool.or_eq_true, decide_eq_true_eq, not_or, Int.not_le, Int.not_lt, Nat.not_lt, Bool.not_eq_true, Option.isSome_eq_false_iff, Option.isNone_iff_eq_none, ne_eq, Decidable.not_not] at hc
  obtain ⟨⟨⟨⟨hs, hn0⟩, hn1⟩, hN0⟩, hoff⟩ := hc
  rw [hZ.n0] at hN0
  simp only [Option.bind_eq_bind, Option.bind_eq_some_iff] at h
  obtain ⟨o, ho, h⟩ := h
  cases o with
  | loop => simp at h
  | deferred => simp at h
  | cells c el fz g =>
    simp only at h
    split at h
    · cases h
    rename_i hfg
    simp only [Bool.or_eq_true, decide_eq_true_eq, not_or, ne_eq, Decidable.not_not, Bool.not_eq_true] at hfg
    obtain ⟨rfl, rfl⟩ := hfg
    split at h <;> try (cases h; done)
    rename_i pt it hat
    have hat' : argTypes = #[pt, it] := by apply Array.ext'; simpa using hat
    subst hat'
    simp only [Option.bind_eq_some_iff] at h
    obtain ⟨dpt, hdpt, h⟩ := h
    split at h <;> try (cases h; done)
    rename_i u
    simp only [Option.bind_eq_some_iff] at h
    obtain ⟨i, hi, h⟩ := h
    split at h
    · cases h
    rename_i hsz
    simp only [Bool.or_eq_true, decide_eq_true_eq, not_or, ne_eq, Decidable.not_not] at hsz
    obtain ⟨hsz, rfl⟩ := hsz
    simp only [Option.bind_eq_some_iff] at h
    obtain ⟨r, hr, bs, hbs, h⟩ := h
    cases h
    have hinfo := hZ.info _ _ hi
    obtain ⟨ro, hro, tail, el', fz', rfl, hg1, hg2, hg3⟩ := hR.obj _ _ ho
    obtain ⟨rfl, hfz⟩ := hg2 hN0
    have hfz' : fz' = (0, 0) := by rcases hfz with h | h; exact h; exact absurd rfl h.1
    subst hfz'
    obtain ⟨htail, hσ⟩ := hg1 rfl
    subst htail
    have hle := takeN_le hr (by omega)
    have he : e.addr a = ⟨e.ρ a.block, 0, none⟩ := by rw [hR.addrS hs ho, hoff]
    have hin := (Array.getElem?_eq_some_iff.1 hro).1
    have hshape : w.shape? (e.ρ a.block) = some (el', c.length) := by simp [World.shape?, hro]
    have hrl := (takeN_some hr).2
    have hrb := mapM_byteOf r bs hbs
    have hbl : bs.length = n.toNat := by rw [← hrl, hrb, List.length_map]
    have hnl : (n : Int) = ((bs.length : Nat) : Int) := by omega
    have hcell : ∀ j x, bs[j]? = some x → w.cell? ((⟨e.ρ a.block, 0, none⟩ : Addr).add j) = some (.int .u8 x.toNat) := by
      intro j x hx
      have h1 : r[j]? = some (.int .u8 x.toNat) := by rw [hrb, List.getElem?_map, hx]; rfl
      have := hR.cell ho (takeN_get hr j _ h1)
      rw [hoff] at this
      rw [add_spot rfl]
      simpa using this
    have hrun := Lib.run_unsafeString_row (P := p.P) w pt it ty el' (hZ.und _ _ hdpt) (by simp [Program.cellsOf, hinfo, hsz]) (e.ρ a.block) c.length hshape bs (by intro h0; rw [h0] at hbl; simp at hbl; omega)
      (by rw [hbl]; omega) (by rw [hbl]; omega) hcell
    rw [← hnl, hbl] at hrun
    have hfr : w.freeze ⟨e.ρ a.block, 0, none⟩ n.toNat = World.setBlk w (e.ρ a.block) (.cells ((c.map (ren e)).toArray ++ #[]) el' (0, n.toNat)) := by
      simp only [World.freeze, World.setBlk]
      rw [if_neg (by omega)]
      congr 1
      apply Array.ext_getElem?
      intro k
      rw [Array.getElem?_modify]
      by_cases hk : e.ρ a.block = k
      · subst hk; simp only [if_true, hro]; simp [hin]
      · rw [if_neg hk, Array.getElem?_setIfInBounds_ne hk]
    refine ⟨World.setBlk w (e.ρ a.block) (.cells ((c.map (ren e)).toArray ++ #[]) el' (0, n.toNat)), ?_, ?_, und_string _⟩
    · rw [he, hrun, hfr]; simp
    · refine Step.put hR a.block _ _ _ ho hN0 (show ∀ v ∈ c, Und H.D v from hR.und _ _ ho) ?_ rfl rfl rfl rfl
      exact ⟨#[], el', _, rfl, fun _ => ⟨rfl, hσ⟩, fun _ => ⟨rfl, .inl rfl⟩, hg3⟩
end Go.Eng
