/- What is laid, as cells. -/
import Derived.Test.YtooppedofcpfeaaGreatDoorEngZ
import Derived.OpenShut
import Derived.LaidLaws
import GoSem.ClaimJoined
set_option linter.all false
namespace Go.Eng

def flatParts (g : TypeId → DataW Unit → Option (List Value)) (sz : TypeId → Nat) : List (Nat × TypeId) → List (DataW Unit) → Nat → Option (List Value)
  | [], [], _ => some []
  | (off, t) :: ps, d :: ds, k => if off = k then (match g t d with | some c => if c.length = sz t then (flatParts g sz ps ds (k + sz t)).map (c ++ ·) else none | none => none) else none
  | _, _, _ => none
def flatD (P : Program) : Nat → TypeId → DataW Unit → Option (List Value)
  | 0, _, _ => none
  | n + 1, t, d =>
    match P.underlying t, d with
    | some .bool, .lit (.bool b) => some [.bool b]
    | some (.int k), .lit (.int k' z) => if k' = k then some [.int k z] else none
    | some .string, .lit (.string l) => some [.string ⟨l.toArray⟩]
    | some (.struct fs), .agg ds => flatParts (flatD P n) P.cellsOf (fs.toList.map fun f => (f.offset, f.type)) ds 0
    | some (.array m e), .agg ds => flatParts (flatD P n) P.cellsOf ((List.range m).map fun i => (i * P.cellsOf e, e)) ds 0
    | _, _ => none

theorem flatParts_sound {g : TypeId → DataW Unit → Option (List Value)} {sz : TypeId → Nat} {cs : List Value} : ∀ (ps : List (Nat × TypeId)) (ds : List (DataW Unit)) (k : Nat) (r : List Value),
    (∀ (i off : Nat) (t : TypeId) (d : DataW Unit), ps[i]? = some (off, t) → ds[i]? = some d → ∀ c, g t d = some c → c.length = sz t → (cs.drop off).take (sz t) = c) → flatParts g sz ps ds k = some r → k + r.length = cs.length → cs.drop k = r
  | [], [], k, r, _, h, hl => by
    simp only [flatParts, Option.some.injEq] at h
    subst h
    exact List.drop_eq_nil_of_le (by simp at hl; omega)
  | (off, t) :: ps, d :: ds, k, r, hg, h, hl => by
    simp only [flatParts] at h
    split at h <;> try (cases h; done)
    rename_i hoff
    split at h <;> try (cases h; done)
    rename_i c hc
    split at h <;> try (cases h; done)
    rename_i hcl
    simp only [Option.map_eq_some_iff] at h
    obtain ⟨r', hr', rfl⟩ := h
    subst hoff
    have h1 := hg 0 off t d rfl rfl c hc hcl
    simp only [List.length_append] at hl
    have h2 := flatParts_sound ps ds (off + sz t) r' (fun i o t' d' hi hd c' hc' => hg (i + 1) o t' d' (by simpa using hi) (by simpa using hd) c' hc') hr' (by omega)
    rw [← List.take_append_drop (sz t) (cs.drop off), h1, List.drop_drop, h2]
  | [], _ :: _, k, r, _, h, _ => by simp [flatParts] at h
  | _ :: _, [], k, r, _, h, _ => by simp [flatParts] at h

theorem flatD_sound {enc : TypeId × Value → Unit} {P : Program} {w : World} {base : Nat} {sp : Nat → Bool} {held : Bool} : ∀ (n fuel : Nat) (t : TypeId) (cs : List Value) (d : DataW Unit) (p : List MemPlace) (r : List Value),
    DataW.trod enc P w base sp held fuel t cs = some (d, p) → flatD P n t d = some r → r.length = P.cellsOf t → cs = r
  | 0, _, _, _, _, _, _, _, h, _ => by simp [flatD] at h
  | n + 1, fuel, t, cs, d, p, r, ht, h, hl => by
    simp only [flatD] at h
    split at h
    · rename_i b hu
      obtain ⟨b', rfl, hx⟩ := DataW.trod_bool hu ht
      cases hx; cases h; rfl
    · rename_i k k' z hu
      obtain ⟨z', rfl, hx, _⟩ := DataW.trod_int hu ht
      cases hx
      simp at h; exact h
    · rename_i l hu
      obtain ⟨s, rfl, hx, _⟩ := DataW.trod_string hu ht
      cases hx
      cases h
      simp
    · rename_i fs ds hu
      obtain ⟨xs, m, _, hx, hcl, hxl, hf⟩ := DataW.trod_struct hu ht
      simp only [Prod.mk.injEq, DataW.agg.injEq] at hx
      obtain ⟨rfl, _⟩ := hx
      have := flatParts_sound (cs := cs) _ _ 0 r ?_ h (by omega)
      · simpa using this
      · intro i off t' d' hi hd c hc hcs
        simp only [List.getElem?_map, Option.map_eq_some_iff, Prod.mk.injEq] at hi hd
        obtain ⟨f, hfi, rfl, rfl⟩ := hi
        obtain ⟨x, hxi, rfl⟩ := hd
        have h1 := hf i f (by simpa using hfi)
        rw [hxi] at h1
        exact flatD_sound n m f.type _ x.1 x.2 c h1 hc hcs
    · rename_i m e ds hu
      obtain ⟨xs, q, _, hx, hcl, hxl, hf⟩ := DataW.trod_array hu ht
      simp only [Prod.mk.injEq, DataW.agg.injEq] at hx
      obtain ⟨rfl, _⟩ := hx
      have := flatParts_sound (cs := cs) _ _ 0 r ?_ h (by omega)
      · simpa using this
      · intro i off t' d' hi hd c hc hcs
        simp only [List.getElem?_map, Option.map_eq_some_iff, Prod.mk.injEq] at hi hd
        obtain ⟨j, hj, rfl, rfl⟩ := hi
        obtain ⟨x, hxi, rfl⟩ := hd
        have hjm : i < m ∧ j = i := by
          have := List.getElem?_eq_some_iff.1 hj
          obtain ⟨h1, h2⟩ := this
          simp at h1 h2
          exact ⟨h1, h2.symm⟩
        have h1 := hf i hjm.1
        rw [hxi] at h1
        rw [hjm.2]
        exact flatD_sound n q e _ x.1 x.2 c h1 hc hcs
    · cases h
end Go.Eng
