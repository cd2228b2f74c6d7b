import Derived.Test.YtlbnfokedkpccaaGreatSeat1
set_option linter.all false
set_option maxRecDepth 100000
namespace Go.Proofs.YtlbnfokedkpccaaGreat
open Go.Eng
noncomputable def lowHK : List (Nat × AObj) := []
noncomputable def KL1 : LSt := ⟨[(0, .slice (some ⟨15, 0, none⟩) 7 7)],
  lowHK ++ [(15, .cells [.int .i64 2, .slice (some ⟨5, 0, none⟩) 2 2, .int .i64 2, .slice (some ⟨8, 0, none⟩) 2 2, .int .i64 0, .slice none 0 0, .int .i64 2, .slice (some ⟨10, 0, none⟩) 3 3, .int .i64 3, .slice (some ⟨3, 0, none⟩) 2 2, .int .i64 2, .slice (some ⟨12, 0, none⟩) 2 2, .int .i64 1, .slice none 0 0] 36 (0, 0) false), (5, .cells [.int .i64 0, .slice none 0 0, .int .i64 0, .slice none 0 0] 36 (0, 0) false), (8, .cells [.int .i64 0, .slice none 0 0, .int .i64 1, .slice none 0 0] 36 (0, 0) false), (10, .cells [.int .i64 0, .slice none 0 0, .int .i64 0, .slice none 0 0, .int .i64 0, .slice none 0 0] 36 (0, 0) false), (3, .cells [.int .i64 0, .slice none 0 0, .int .i64 1, .slice none 0 0] 36 (0, 0) false), (12, .cells [.int .i64 0, .slice none 0 0, .int .i64 3, .slice (some ⟨3, 0, none⟩) 2 2] 36 (0, 0) false)], 16⟩
noncomputable def bodyK48 : Code := Tryz.f48.body.getD .skip
theorem bodyK48_eq : Tryz.f48.body = some bodyK48 := by kernel_rfl
end Go.Proofs.YtlbnfokedkpccaaGreat
