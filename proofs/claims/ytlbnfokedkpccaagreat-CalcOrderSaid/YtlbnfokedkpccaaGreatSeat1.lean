import Derived.Test.YtlbnfokedkpccaaGreatEng3
import Derived.Test.YtlbnfokedkpccaaGreatChecked
import Derived.KernelRfl
set_option linter.all false
namespace Go.Proofs.YtlbnfokedkpccaaGreat
open Go.Eng
noncomputable def par9 (B : Nat) : Par := ⟨Tryz.prog, 1, 0, B⟩
noncomputable def par (B : Nat) : Par := ⟨Tryz.prog, 0, 0, B⟩
noncomputable def tys : Tr TypeInfo := Tr.ofList Tryz.types.toList
noncomputable def fns : Tr Func := Tr.ofList Tryz.funcs.toList
noncomputable def Zt9 : Tab := tabC tys fns 199 0 [147, 184, 206, 208, 209, 210, 211, 212, 213, 214, 216, 217, 218, 219, 220, 221, 222]
theorem fns_ok : Tryz.funcs.toList.all (okFn 1) = true := by kernel_rfl
theorem zok9 [Shift] (B : Nat) : TOk Zt9 (par9 B) :=
  tabC_ok (p := par9 B) (show ([147, 184, 206, 208, 209, 210, 211, 212, 213, 214, 216, 217, 218, 219, 220, 221, 222] : List Nat).all (fun t => !Tryz.prog.stoodInHeld t && !Tryz.prog.eqGuardType Tryz.prog.depth t) = true by kernel_rfl)
    (show Tryz.types.size < 2 ^ 40 from of_decide_eq_true (by kernel_rfl)) (show Tryz.funcs.size < 2 ^ 40 from of_decide_eq_true (by kernel_rfl)) fns_ok (show Tryz.prog.follows .mixedOrders = true by kernel_rfl)
    Tryz.func199 (by kernel_rfl) (by kernel_rfl) (by kernel_rfl) (by kernel_rfl)
/-- The functions that speak of variables of which nothing is known. -/
def farFns : List Nat := []
noncomputable def Zt : Tab := { info := tys.get, und := undOf tys, fn := fun f => cond (farFns.any (Nat.beq f)) none (fnOf fns f), ext := Zt9.ext, N0 := 0, eqOk := Zt9.eqOk }
def okAll : List Func → Nat → Bool
  | [], _ => true
  | f :: l, i => (farFns.any (Nat.beq i) || okFn 0 f) && okAll l (i + 1)
theorem okAll_get : ∀ (l : List Func) (i k : Nat) (f : Func), okAll l i = true → l[k]? = some f → farFns.any (Nat.beq (i + k)) = false → okFn 0 f = true
  | [], _, _, _, _, h, _ => by simp at h
  | g :: l, i, 0, f, h, hg, hb => by
    simp only [okAll, Bool.and_eq_true, Bool.or_eq_true] at h
    obtain rfl : g = f := by simpa using hg
    rcases h.1 with h1 | h1
    · rw [show i + 0 = i from rfl] at hb; rw [h1] at hb; cases hb
    · exact h1
  | g :: l, i, k + 1, f, h, hg, hb => by
    simp only [okAll, Bool.and_eq_true] at h
    exact okAll_get l (i + 1) k f h.2 (by simpa using hg) (by rw [show i + 1 + k = i + (k + 1) by omega]; exact hb)
set_option maxRecDepth 100000 in
theorem fns1_ok : okAll Tryz.funcs.toList 0 = true := by kernel_rfl
set_option maxRecDepth 100000 in
theorem zok [Shift] (B : Nat) : TOk Zt (par B) := by
  have h9 := zok9 B
  refine ⟨h9.info, h9.und, ?_, h9.idx, h9.cmp, rfl, h9.mixed, h9.eqk⟩
  intro f fn h
  have h' : (cond (farFns.any (Nat.beq f)) none (fnOf fns f)) = some fn := h
  cases hb : farFns.any (Nat.beq f) with
  | true => rw [hb] at h'; cases h'
  | false =>
    rw [hb] at h'
    obtain ⟨hf, ⟨c, hc, _, hn⟩, hm⟩ := h9.fn f fn h'
    have hf' : Tryz.funcs.toList[f]? = some fn := by
      rw [Array.getElem?_toList]; exact hf
    have h1 := okAll_get _ 0 f fn fns1_ok hf' (by rw [Nat.zero_add]; exact hb)
    simp only [okFn, hc, Bool.and_eq_true] at h1
    exact ⟨hf, ⟨c, hc, h1.1.1, hn⟩, hm⟩
def S (l : List Nat) : Value := .string ⟨(l.map fun n => UInt8.ofNat n).toArray⟩
noncomputable def h0 : Heap := { m := (Tr.e : Tr AObj), next := 0 }
end Go.Proofs.YtlbnfokedkpccaaGreat
