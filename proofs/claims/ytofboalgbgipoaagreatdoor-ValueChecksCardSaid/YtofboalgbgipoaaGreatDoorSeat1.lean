import Derived.Test.YtofboalgbgipoaaGreatDoorEng3
import Derived.Test.YtofboalgbgipoaaGreatDoorChecked
import Derived.KernelRfl
set_option linter.all false
namespace Go.Proofs.YtofboalgbgipoaaGreatDoor
open Go.Eng
noncomputable def par (B : Nat) : Par := ⟨Tryz.prog, 7, 9, B⟩
noncomputable def tys : Tr TypeInfo := Tr.ofList Tryz.types.toList
noncomputable def fns : Tr Func := Tr.ofList Tryz.funcs.toList
noncomputable def Zt : Tab := tabOf tys fns 90 86 9 [97, 98, 99, 101, 108]
theorem fns_ok : Tryz.funcs.toList.all (okFn 7) = true := by kernel_rfl
theorem zok [Shift] (B : Nat) : TOk Zt (par B) :=
  tabOf_ok (p := par B) (show ([97, 98, 99, 101, 108] : List Nat).all (fun t => !Tryz.prog.stoodInHeld t && !Tryz.prog.eqGuardType Tryz.prog.depth t) = true by kernel_rfl)
    (show Tryz.types.size < 2 ^ 40 from of_decide_eq_true (by kernel_rfl)) (show Tryz.funcs.size < 2 ^ 40 from of_decide_eq_true (by kernel_rfl)) fns_ok (show Tryz.prog.follows .mixedOrders = true by kernel_rfl)
    Tryz.func90 (by kernel_rfl) (by kernel_rfl) (by kernel_rfl) (by kernel_rfl) Tryz.func86 (by kernel_rfl) (by kernel_rfl) (by kernel_rfl) (by kernel_rfl)
def S (l : List Nat) : Value := .string ⟨(l.map fun n => UInt8.ofNat n).toArray⟩
noncomputable def lcells0 : List Value := [S [105, 110, 116], S [], S [], S [116, 101, 120, 116], S [], S [], S [40], S [44, 32], S [41], S [91], S [32, 43, 32], S [93]]
noncomputable def lcells4 : List Value := [.int .u64 1, .int .u64 10, .int .u64 100, .int .u64 1000, .int .u64 10000, .int .u64 100000, .int .u64 1000000, .int .u64 10000000, .int .u64 100000000, .int .u64 1000000000, .int .u64 10000000000, .int .u64 100000000000, .int .u64 1000000000000, .int .u64 10000000000000, .int .u64 100000000000000, .int .u64 1000000000000000, .int .u64 10000000000000000, .int .u64 100000000000000000, .int .u64 1000000000000000000, .int .u64 10000000000000000000]
noncomputable def lcells5 : List Value := [.int .u8 0, .int .u8 1, .int .u8 28, .int .u8 2, .int .u8 29, .int .u8 14, .int .u8 24, .int .u8 3, .int .u8 30, .int .u8 22, .int .u8 20, .int .u8 15, .int .u8 25, .int .u8 17, .int .u8 4, .int .u8 8, .int .u8 31, .int .u8 27, .int .u8 13, .int .u8 23, .int .u8 21, .int .u8 19, .int .u8 16, .int .u8 7, .int .u8 26, .int .u8 12, .int .u8 18, .int .u8 6, .int .u8 11, .int .u8 5, .int .u8 10, .int .u8 9]
noncomputable def lcells6 : List Value := [.int .u8 0, .int .u8 1, .int .u8 56, .int .u8 2, .int .u8 57, .int .u8 49, .int .u8 28, .int .u8 3, .int .u8 61, .int .u8 58, .int .u8 42, .int .u8 50, .int .u8 38, .int .u8 29, .int .u8 17, .int .u8 4, .int .u8 62, .int .u8 47, .int .u8 59, .int .u8 36, .int .u8 45, .int .u8 43, .int .u8 51, .int .u8 22, .int .u8 53, .int .u8 39, .int .u8 33, .int .u8 30, .int .u8 24, .int .u8 18, .int .u8 12, .int .u8 5, .int .u8 63, .int .u8 55, .int .u8 48, .int .u8 27, .int .u8 60, .int .u8 41, .int .u8 37, .int .u8 16, .int .u8 46, .int .u8 35, .int .u8 44, .int .u8 21, .int .u8 52, .int .u8 32, .int .u8 23, .int .u8 11, .int .u8 54, .int .u8 26, .int .u8 40, .int .u8 15, .int .u8 34, .int .u8 20, .int .u8 31, .int .u8 10, .int .u8 25, .int .u8 14, .int .u8 19, .int .u8 9, .int .u8 13, .int .u8 8, .int .u8 7, .int .u8 6]
noncomputable def h0 : Heap := { m := (((((((((((((Tr.e : Tr AObj)).set 0 (some (.cells lcells0 0 (0,0) false)))).set 2 (some (.cells [.iface 149 (.pointer (some ⟨7,0,none⟩))] 0 (0,0) false)))).set 3 (some (.cells [.iface 149 (.pointer (some ⟨8,0,none⟩))] 0 (0,0) false)))).set 4 (some (.cells lcells4 0 (0,0) false)))).set 5 (some (.cells lcells5 0 (0,0) false)))).set 6 (some (.cells lcells6 0 (0,0) false))), next := 9 }
end Go.Proofs.YtofboalgbgipoaaGreatDoor
