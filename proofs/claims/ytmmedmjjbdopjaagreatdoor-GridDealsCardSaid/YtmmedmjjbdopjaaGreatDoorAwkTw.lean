import Derived.Test.YtmmedmjjbdopjaaGreatDoorAwk0
section
namespace Go.Proofs
open Go.AM Go.RowKit
set_option maxRecDepth 1000000
noncomputable def turnsR : Value := .agg (#[0, 2, 4, 0, 3, 5, 0, 4, 3, 0, 5, 2, 1, 2, 5, 1, 3, 4, 1, 4, 2, 1, 5, 3, 2, 0, 5, 2, 1, 4, 2, 4, 0, 2, 5, 1, 3, 0, 4, 3, 1, 5, 3, 4, 1, 3, 5, 0, 4, 0, 2, 4, 1, 3, 4, 2, 1, 4, 3, 0, 5, 0, 3, 5, 1, 2, 5, 2, 0, 5, 3, 1].map fun n => .int .i64 n)
theorem awk_turns_runs : (callF Tryz.prog sumT 100000 63 [] (hG gN gRows)).map (·.1) = some turnsR := by kernel_rfl
noncomputable def sumTu : Sum := memoG 63 [] turnsR gN gRows sumT
theorem sumTu_ok : SumOk Tryz.prog sumTu := memoG_of wax_names wax_mixed sumT_ok sumT_ok rfl (by kernel_rfl) gRows_flat awk_turns_runs
end Go.Proofs
end

section
namespace Go.Proofs
open Go.AM Go.RowKit
set_option maxRecDepth 1000000
theorem twice_runs : (callF Tryz.prog sumTu 100000 21 [.int .i64 10, .int .i64 10] (hG gN gRows)).map (·.1) = some (.tuple #[.int .i64 16, .int .i64 0]) := by kernel_rfl
end Go.Proofs
end
