import Derived.Test.YtmmedmjjbdopjaaGreatDoorAwk0
namespace Go.Proofs
open Go.AM Go.RowKit
set_option maxRecDepth 1000000
noncomputable def timesA : List Value := [.agg #[.string ⟨#[45, 49]⟩, .string ⟨#[50]⟩], .agg #[.string ⟨#[45, 51]⟩, .string ⟨#[52]⟩]]
noncomputable def timesR : Value := .tuple #[.agg #[.string ⟨#[45, 54]⟩, .string ⟨#[56]⟩], .int .i64 0]
theorem times_runs : (callF Tryz.prog sumT 100000 12 timesA (hG gN gRows)).map (·.1) = some timesR := by kernel_rfl
end Go.Proofs
