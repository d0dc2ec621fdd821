import Derived.Test.YtfdhppdkgfioaaaGreatDoorWaxTa
/- The fixed examples of chapter 1 hold, from any world in which the table of powers of ten is as it was laid. -/
namespace Go.Proofs
open Go.AM Go.RowKit
set_option maxRecDepth 1000000
noncomputable def sumA : Sum := memoG 38 [.int .i64 10, .int .i64 10] (.tuple #[.int .i64 16, .int .i64 0]) gN gRows (memoG 28 timesA timesR gN gRows (memoG 30 rootA rootR gN gRows
  (memo 39 ringL 8 (.tuple #[waxI 1, waxI 0]) (memo 92 cornerL 3 cornerR sumTu))))
theorem sumA_ok : SumOk Tryz.prog sumA :=
  memoG_of wax_names wax_mixed (memoG_of wax_names wax_mixed (memoG_of wax_names wax_mixed (memo_of (memo_of sumTu_ok sum0_ok (by decide) rfl rfl corner_counts) sum1_ok (by decide) rfl rfl ring_tunnels) sumT_ok (by kernel_rfl) (by kernel_rfl) gRows_flat root_runs) sumT_ok (by kernel_rfl) (by kernel_rfl) gRows_flat times_runs) sumTu_ok (by kernel_rfl) (by kernel_rfl) gRows_flat twice_runs
theorem awake_runs : (callF Tryz.prog sumA 100000 5 [] (hG gN gRows)).map (·.1) = some (.bool true) := by kernel_rfl
theorem awake_ok (w : World) (hw : GOk gN gRows w) : Calls Tryz.prog 5 #[] w fun e w' => e = .returned (.bool true) ∧ Below w.heap.size w w' :=
  closed_flatG wax_names wax_mixed sumA_ok hw awake_runs rfl (by kernel_rfl)
end Go.Proofs
