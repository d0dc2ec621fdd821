/- GridMoves: all ways together. -/
import Derived.Test.YtokhbkhoidpefaaGreatDoorGMovA
import Derived.Test.YtokhbkhoidpefaaGreatDoorGMovB
import Derived.Test.YtokhbkhoidpefaaGreatDoorGMovC
namespace Go.Proofs
open Go.RowKit
theorem fst_two (a b : Int) : fstI [a, b] ≠ 0 ∨ (a = 0 ∧ b = 0) := by
  rw [fst_or]
  unfold orI
  by_cases h1 : a = 0 <;> by_cases h2 : b = 0 <;> simp [h1, h2]
theorem fst_three (a b c : Int) : fstI [a, b, c] ≠ 0 ∨ (a = 0 ∧ b = 0 ∧ c = 0) := by
  rw [fst_or3]
  unfold orI
  by_cases h1 : a = 0 <;> by_cases h2 : b = 0 <;> by_cases h3 : c = 0 <;> simp [h1, h2, h3]
theorem gmoves_all (l : List Cel) (va : Value) (bx by_ bz tn ox oy oz ax at_ th : Int) (w : World) (ha : St w va l) (kA : AwakeAt w) :
    Calls Tryz.prog 3 #[va, .agg #[.int .i64 bx, .int .i64 by_, .int .i64 bz, .int .i64 tn, .int .i64 ox, .int .i64 oy, .int .i64 oz, .int .i64 ax, .int .i64 at_, .int .i64 th]] w fun e w' => e = .returned (.bool true) ∧ Below w.heap.size w w' := by
  obtain ⟨ha1, A, ka, rfl, _, _⟩ := ha
  cases h1 : shortB l.length 60 with
  | false => exact gmoves_out A _ ka bx by_ bz tn ox oy oz ax at_ th w kA h1
  | true =>
    rcases fst_two (chkI l) (vecI (bx, by_, bz) 2000) with hS | hS <;>
    rcases fst_three (chkI l) (withinI tn 0 23) (vecI (ox, oy, oz) 1000) with hT | hT <;>
    rcases fst_three (chkI l) (withinI ax 0 2) (withinI at_ (-1000) 1000) with hM | hM <;>
    rcases fst_two (withinI tn 0 23) (withinI th 0 23) with hF | hF
    · exact gmoves_0000 l A ka bx by_ bz tn ox oy oz ax at_ th w kA ha1 h1 _ _ _ _ _ _ _ rfl rfl rfl rfl rfl rfl rfl hS hT hM hF
    · exact gmoves_0001 l A ka bx by_ bz tn ox oy oz ax at_ th w kA ha1 h1 _ _ _ _ _ _ _ rfl rfl rfl rfl rfl rfl rfl hS hT hM hF
    · exact gmoves_0010 l A ka bx by_ bz tn ox oy oz ax at_ th w kA ha1 h1 _ _ _ _ _ _ _ rfl rfl rfl rfl rfl rfl rfl hS hT hM hF
    · exact gmoves_0011 l A ka bx by_ bz tn ox oy oz ax at_ th w kA ha1 h1 _ _ _ _ _ _ _ rfl rfl rfl rfl rfl rfl rfl hS hT hM hF
    · exact gmoves_0100 l A ka bx by_ bz tn ox oy oz ax at_ th w kA ha1 h1 _ _ _ _ _ _ _ rfl rfl rfl rfl rfl rfl rfl hS hT hM hF
    · exact gmoves_0101 l A ka bx by_ bz tn ox oy oz ax at_ th w kA ha1 h1 _ _ _ _ _ _ _ rfl rfl rfl rfl rfl rfl rfl hS hT hM hF
    · exact gmoves_0110 l A ka bx by_ bz tn ox oy oz ax at_ th w kA ha1 h1 _ _ _ _ _ _ _ rfl rfl rfl rfl rfl rfl rfl hS hT hM hF
    · exact gmoves_0111 l A ka bx by_ bz tn ox oy oz ax at_ th w kA ha1 h1 _ _ _ _ _ _ _ rfl rfl rfl rfl rfl rfl rfl hS hT hM hF
    · exact gmoves_1000 l A ka bx by_ bz tn ox oy oz ax at_ th w kA ha1 h1 _ _ _ _ _ _ _ rfl rfl rfl rfl rfl rfl rfl hS hT hM hF
    · exact gmoves_1001 l A ka bx by_ bz tn ox oy oz ax at_ th w kA ha1 h1 _ _ _ _ _ _ _ rfl rfl rfl rfl rfl rfl rfl hS hT hM hF
    · exact gmoves_1010 l A ka bx by_ bz tn ox oy oz ax at_ th w kA ha1 h1 _ _ _ _ _ _ _ rfl rfl rfl rfl rfl rfl rfl hS hT hM hF
    · exact gmoves_1011 l A ka bx by_ bz tn ox oy oz ax at_ th w kA ha1 h1 _ _ _ _ _ _ _ rfl rfl rfl rfl rfl rfl rfl hS hT hM hF
    · exact gmoves_1100 l A ka bx by_ bz tn ox oy oz ax at_ th w kA ha1 h1 _ _ _ _ _ _ _ rfl rfl rfl rfl rfl rfl rfl hS hT hM hF
    · exact gmoves_1101 l A ka bx by_ bz tn ox oy oz ax at_ th w kA ha1 h1 _ _ _ _ _ _ _ rfl rfl rfl rfl rfl rfl rfl hS hT hM hF
    · exact gmoves_1110 l A ka bx by_ bz tn ox oy oz ax at_ th w kA ha1 h1 _ _ _ _ _ _ _ rfl rfl rfl rfl rfl rfl rfl hS hT hM hF
    · exact gmoves_1111 l A ka bx by_ bz tn ox oy oz ax at_ th w kA ha1 h1 _ _ _ _ _ _ _ rfl rfl rfl rfl rfl rfl rfl hS hT hM hF
end Go.Proofs
