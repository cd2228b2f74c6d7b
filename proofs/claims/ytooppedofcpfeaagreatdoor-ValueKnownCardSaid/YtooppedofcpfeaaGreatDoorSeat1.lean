import Derived.Test.YtooppedofcpfeaaGreatDoorEngZ
import Derived.Test.YtooppedofcpfeaaGreatDoorChecked
import Derived.KernelRfl
set_option linter.all false
namespace Go.Proofs.YtooppedofcpfeaaGreatDoor
open Go.Eng
noncomputable def par (B : Nat) : Par := ⟨Tryz.prog, 7, 14, B⟩
noncomputable def tys : Tr TypeInfo := Tr.ofList Tryz.types.toList
noncomputable def fns : Tr Func := Tr.ofList Tryz.funcs.toList
noncomputable def Zt : Tab := tabOf tys fns 134 130 14
theorem fns_ok : Tryz.funcs.toList.all (okFn 7) = true := by kernel_rfl
theorem zok [Shift] (B : Nat) : TOk Zt (par B) :=
  tabOf_ok (p := par B) (show Tryz.types.size < 2 ^ 40 from of_decide_eq_true (by kernel_rfl)) (show Tryz.funcs.size < 2 ^ 40 from of_decide_eq_true (by kernel_rfl)) fns_ok (show Tryz.prog.follows .mixedOrders = true by kernel_rfl)
    Tryz.func134 (by kernel_rfl) (by kernel_rfl) (by kernel_rfl) (by kernel_rfl) Tryz.func130 (by kernel_rfl) (by kernel_rfl) (by kernel_rfl) (by kernel_rfl)

noncomputable def S (l : List Nat) : Value := .string ⟨(l.map fun n => UInt8.ofNat n).toArray⟩
noncomputable def ints (k : IntKind) (l : List Int) : List Value := l.map fun n => .int k n
noncomputable def frames : List Value := [S [105, 110, 116], S [], S [], S [116, 101, 120, 116], S [], S [], S [40], S [44, 32], S [41], S [91], S [32, 43, 32], S [93]]
noncomputable def pow10 : List Value := (List.range 20).map fun n => .int .u64 (10^n : Nat)
noncomputable def tab32 : List Value := ints .u8 [0,1,28,2,29,14,24,3,30,22,20,15,25,17,4,8,31,27,13,23,21,19,16,7,26,12,18,6,11,5,10,9]
noncomputable def tab64 : List Value := ints .u8 [0,1,56,2,57,49,28,3,61,58,42,50,38,29,17,4,62,47,59,36,45,43,51,22,53,39,33,30,24,18,12,5,63,55,48,27,60,41,37,16,46,35,44,21,52,32,23,11,54,26,40,15,34,20,31,10,25,14,19,9,13,8,7,6]
noncomputable def h0 : Heap := { m := ((((((Tr.e.set 0 (some (.cells frames 0 (0,0) false))).set 2 (some (.cells pow10 0 (0,0) false))).set 3 (some (.cells [.iface 187 (.pointer (some ⟨12,0,none⟩))] 0 (0,0) false))).set 4 (some (.cells [.iface 187 (.pointer (some ⟨13,0,none⟩))] 0 (0,0) false))).set 5 (some (.cells tab32 0 (0,0) false))).set 6 (some (.cells tab64 0 (0,0) false))), next := 14 }
noncomputable def isT : Option (Res × Heap) → Bool
  | some (.ret (.bool true), _) => true
  | _ => false
end Go.Proofs.YtooppedofcpfeaaGreatDoor
