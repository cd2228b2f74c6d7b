/- The tables of a program, for the evaluator. -/
import Derived.Test.YtooppedofcpfeaaGreatDoorEngY
import Derived.Laws.Externs
import Derived.Lib.Bytealg
set_option linter.all false
namespace Go.Eng
variable [Shift]

theorem Tr.get_ofListGo {α : Type} : ∀ (l : List α) (k : Nat) (t : Tr α) (j : Nat), k + l.length < 2 ^ 40 → (Tr.ofList.go l k t).get j = if k ≤ j ∧ j < k + l.length then l[j - k]? else t.get j
  | [], k, t, j, _ => by simp only [Tr.ofList.go, List.length_nil]; rw [if_neg (by omega)]
  | x :: l, k, t, j, h => by
    simp only [List.length_cons] at h
    simp only [Tr.ofList.go, List.length_cons]
    rw [Tr.setK_eq, Tr.get_ofListGo l (k + 1) _ j (by omega), Tr.get_setK 40 _ _ _ _ (by omega)]
    by_cases h1 : k + 1 ≤ j ∧ j < k + 1 + l.length
    · rw [if_pos h1, if_pos (by omega)]
      obtain ⟨q, hq⟩ : ∃ q, j - k = q + 1 := ⟨j - k - 1, by omega⟩
      rw [hq, List.getElem?_cons_succ]; congr 1; omega
    · rw [if_neg h1]
      by_cases h2 : j = k
      · subst h2; rw [if_pos rfl, if_pos (by omega)]; simp
      · rw [if_neg h2, if_neg (by omega)]
theorem Tr.get_ofList {α : Type} (l : List α) (j : Nat) (h : l.length < 2 ^ 40) : (Tr.ofList l).get j = l[j]? := by
  unfold Tr.ofList
  rw [Tr.get_ofListGo l 0 _ j (by omega)]
  by_cases hj : j < l.length
  · rw [if_pos (by omega)]; simp
  · rw [if_neg (by omega)]; simp [Tr.get, List.getElem?_eq_none (Nat.le_of_not_lt hj)]

def undOf (ty : Tr TypeInfo) (t : Nat) : Option TypeDesc :=
  match ty.get t with
  | none => none
  | some i =>
    match i.desc with
    | .named _ u => match ty.get u with | some j => some j.desc | none => none
    | d => some d
def fnOf (fns : Tr Func) (f : Nat) : Option Func :=
  match fns.get f with
  | some fn => match fn.body with | some _ => some fn | none => none
  | none => none
def tabOf (ty : Tr TypeInfo) (fns : Tr Func) (idx cmp : Nat) (N0 : Nat) : Tab :=
  { info := ty.get, und := undOf ty, fn := fnOf fns, ext := fun f => cond (Nat.beq f idx) (some .indexByte) (cond (Nat.beq f cmp) (some .compare) none), N0 := N0 }

def okFn (G : Nat) (fn : Func) : Bool :=
  match fn.body with
  | some c => cOk G fn.ntmps c && Nat.ble fn.ntmps 1000000 && !(fn.name == "runtime.NumGoroutine")
  | none => true

theorem run_indexByte {P : Program} (s : ByteArray) (c : Int) (w : World) : (Extern.BytealgIndexByte.indexByte #[.string s, .int .u8 c]).run P w =
    .ok (match (List.range s.size).find? fun i => s[i]! == UInt8.ofNat c.toNat with | some i => goInt i | none => goInt (-1)) w := by
  change Sem.run P (do
    let b ← Extern.Bytes.bytesOf (.string s)
    let c ← Extern.Bytes.asByte (.int .u8 c)
    match (List.range b.size).find? fun i => b[i]! == c with
    | some i => pure (goInt i)
    | none => pure (goInt (-1))) w = _
  simp only [Extern.Bytes.bytesOf, Extern.Bytes.asByte, Sem.run_bind, Sem.run_pure, Result.andThen_ok]
  split
  · rename_i i h
    rw [show List.find? (fun i => s[i]! == UInt8.ofNat c.toNat) (List.range s.size) = some i from h]; rfl
  · rename_i h
    rw [show List.find? (fun i => s[i]! == UInt8.ofNat c.toNat) (List.range s.size) = none from h]; rfl

theorem tabOf_ok {p : Par} {idx cmp : Nat} {fi fc : Func} (hty : p.P.types.size < 2 ^ 40) (hfn : p.P.funcs.size < 2 ^ 40) (hok : p.P.funcs.toList.all (okFn p.G) = true) (hmix : p.P.follows .mixedOrders = true)
    (hi : p.P.funcs[idx]? = some fi) (hin : (fi.name == "runtime.NumGoroutine") = false) (hib : fi.body.isNone = true) (hix : Extern.findNext fi = none) (hie : Extern.find fi = some Extern.BytealgIndexByte.indexByte)
    (hc : p.P.funcs[cmp]? = some fc) (hcn : (fc.name == "runtime.NumGoroutine") = false) (hcb : fc.body.isNone = true) (hcx : Extern.findNext fc = none) (hce : Extern.find fc = some Extern.BytealgCompare.compare) :
    TOk (tabOf (Tr.ofList p.P.types.toList) (Tr.ofList p.P.funcs.toList) idx cmp p.N0) p := by
  have hinfo : ∀ t i, (Tr.ofList p.P.types.toList).get t = some i → p.P.info? t = some i := by
    intro t i h
    rw [Tr.get_ofList _ _ (by simpa using hty)] at h
    have h' : p.P.types[t]? = some i := by simpa using h
    have hlt := (Array.getElem?_eq_some_iff.1 h').1
    show p.P.toTables.info? t = some i
    unfold Tables.info?
    rw [if_pos hlt]; exact h'
  refine ⟨hinfo, ?_, ?_, ?_, ?_, rfl, hmix⟩
  · intro t d h
    simp only [tabOf, undOf] at h
    split at h
    · cases h
    rename_i i hi
    have h1 := hinfo _ _ hi
    unfold Program.underlying
    rw [h1]
    split at h
    · rename_i n u hd
      split at h
      · rename_i j hj
        have h2 := hinfo _ _ hj
        cases h
        cases i
        simp only at hd
        subst hd
        simp [h2]
      · cases h
    · rename_i hd
      cases h
      cases i with
      | mk desc =>
        simp only at hd ⊢
        cases desc <;> first | (exact (hd _ _ rfl).elim) | rfl
  · intro f fn h
    simp only [tabOf, fnOf] at h
    split at h <;> try (cases h; done)
    rename_i fn' hf
    split at h <;> try (cases h; done)
    rename_i c hb
    cases h
    rw [Tr.get_ofList _ _ (by simpa using hfn)] at hf
    have hf' : p.P.funcs[f]? = some fn := by simpa using hf
    have := List.all_eq_true.1 hok fn (List.mem_of_getElem? hf)
    simp only [okFn, hb, Bool.and_eq_true, Bool.not_eq_true'] at this
    have hle := Nat.le_of_ble_eq_true this.1.2
    exact ⟨hf', ⟨c, hb, this.1.1, by omega⟩, this.2⟩
  · intro f hf s c w
    have : f = idx := by
      simp only [tabOf] at hf
      cases hb : Nat.beq f idx with
      | true => exact Nat.eq_of_beq_eq_true hb
      | false =>
        rw [hb] at hf
        cases hb2 : Nat.beq f cmp <;> rw [hb2] at hf <;> cases hf
    subst this
    rw [run_callFunc_extern hi hin hib hix hie]
    rw [run_indexByte]
    rfl
  · intro f hf a b w
    have : f = cmp := by
      simp only [tabOf] at hf
      cases hb2 : Nat.beq f cmp with
      | true => exact Nat.eq_of_beq_eq_true hb2
      | false =>
        rw [hb2] at hf
        cases hb : Nat.beq f idx <;> rw [hb] at hf <;> cases hf
    subst this
    rw [run_callFunc_extern hc hcn hcb hcx hce]
    rw [Lib.run_compareString, ← Lib.cmp_eq]
    rfl
end Go.Eng
