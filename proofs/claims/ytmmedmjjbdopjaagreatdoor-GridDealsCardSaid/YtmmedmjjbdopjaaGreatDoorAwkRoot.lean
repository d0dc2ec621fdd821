import Derived.Test.YtmmedmjjbdopjaaGreatDoorAwk0
namespace Go.Proofs
open Go.AM Go.RowKit
set_option maxRecDepth 1000000
noncomputable def rootA : List Value := [.string ⟨#[50]⟩]
noncomputable def rootR : Value := .tuple #[.agg #[.string ⟨#[55, 48, 55, 47, 53, 48, 48]⟩, .string ⟨#[50, 56, 51, 47, 50, 48, 48]⟩], .int .i64 0]
theorem root_runs : (callF Tryz.prog sumT 100000 14 rootA (hG gN gRows)).map (·.1) = some rootR := by kernel_rfl
end Go.Proofs
