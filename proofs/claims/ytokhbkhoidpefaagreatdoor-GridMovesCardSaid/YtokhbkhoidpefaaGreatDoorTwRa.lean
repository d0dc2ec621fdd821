import Derived.Test.YtokhbkhoidpefaaGreatDoorTwR
namespace Go.Proofs
set_option maxRecDepth 1000000
theorem twR_row0 : rowROk 0 (twT.getD 0 []) 0 = true := by kernel_rfl
theorem twR_row1 : rowROk 1 (twT.getD 1 []) 0 = true := by kernel_rfl
theorem twR_row2 : rowROk 2 (twT.getD 2 []) 0 = true := by kernel_rfl
theorem twR_row3 : rowROk 3 (twT.getD 3 []) 0 = true := by kernel_rfl
theorem twR_row4 : rowROk 4 (twT.getD 4 []) 0 = true := by kernel_rfl
theorem twR_row5 : rowROk 5 (twT.getD 5 []) 0 = true := by kernel_rfl
theorem twR_row6 : rowROk 6 (twT.getD 6 []) 0 = true := by kernel_rfl
theorem twR_row7 : rowROk 7 (twT.getD 7 []) 0 = true := by kernel_rfl
end Go.Proofs
