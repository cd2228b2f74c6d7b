import Derived.Test.YtofboalgbgipoaaGreatDoorSeat1
set_option linter.all false
set_option maxRecDepth 100000
namespace Go.Proofs.YtofboalgbgipoaaGreatDoor
open Go.Eng
noncomputable def lowHV : List (Nat × AObj) := [(0, .cells lcells0 0 (0,0) false), (2, .cells [.iface 149 (.pointer (some ⟨7,0,none⟩))] 0 (0,0) false), (3, .cells [.iface 149 (.pointer (some ⟨8,0,none⟩))] 0 (0,0) false), (4, .cells lcells4 0 (0,0) false), (5, .cells lcells5 0 (0,0) false), (6, .cells lcells6 0 (0,0) false)]
noncomputable def VL1 : LSt := ⟨[(0, .bool false), (1, S [40, 45, 51, 44, 32, 34, 97, 92, 34, 98, 34, 44, 32, 40, 41, 44, 32, 35, 50, 32, 48, 41]), (3, S [40, 105, 110, 116, 44, 32, 116, 101, 120, 116, 44, 32, 40, 41, 44, 32, 91, 116, 101, 120, 116, 32, 43, 32, 40, 41, 32, 43, 32, 105, 110, 116, 93, 41]), (11, .pointer (some ⟨410, 0, none⟩)), (13, S [3, 2, 97, 0, 0]), (17, .pointer (some ⟨504, 0, none⟩))],
  lowHV ++ [(410, .cells [.int .i64 2, .int .i64 0, S [], .slice (some ⟨409, 0, none⟩) 4 4] 24 (0, 0) false), (409, .cells [.int .i64 0, .int .i64 (-2147483648), S [], .slice none 0 0, .int .i64 1, .int .i64 0, S [], .slice none 0 0, .int .i64 2, .int .i64 0, S [], .slice none 0 0, .int .i64 3, .int .i64 0, S [], .slice (some ⟨408, 0, none⟩) 1 1] 24 (0, 0) false), (408, .cells [.int .i64 1, .int .i64 0, S [], .slice none 0 0] 24 (0, 0) false), (504, .cells [.int .i64 2, .int .i64 0, S [], .slice (some ⟨481, 0, none⟩) 1 1] 24 (0, 0) false), (481, .cells [.int .i64 0, .int .i64 1, S [], .slice none 0 0] 24 (0, 0) false)], 524⟩
noncomputable def VL2 : LSt := ⟨[(0, .bool true)],
  lowHV ++ [], 767⟩
noncomputable def bodyV16 : Code := Tryz.f16.body.getD .skip
theorem bodyV16_eq : Tryz.f16.body = some bodyV16 := by kernel_rfl
end Go.Proofs.YtofboalgbgipoaaGreatDoor
