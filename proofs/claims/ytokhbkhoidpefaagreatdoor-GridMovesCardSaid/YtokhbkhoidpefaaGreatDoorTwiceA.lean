import Derived.Test.YtokhbkhoidpefaaGreatDoorTwice
namespace Go.Proofs
set_option maxRecDepth 1000000
theorem twice_row0 : rowOk 0 (twT.getD 0 []) 0 = true := by kernel_rfl
theorem twice_row1 : rowOk 1 (twT.getD 1 []) 0 = true := by kernel_rfl
theorem twice_row2 : rowOk 2 (twT.getD 2 []) 0 = true := by kernel_rfl
theorem twice_row3 : rowOk 3 (twT.getD 3 []) 0 = true := by kernel_rfl
theorem twice_row4 : rowOk 4 (twT.getD 4 []) 0 = true := by kernel_rfl
theorem twice_row5 : rowOk 5 (twT.getD 5 []) 0 = true := by kernel_rfl
theorem twice_row6 : rowOk 6 (twT.getD 6 []) 0 = true := by kernel_rfl
theorem twice_row7 : rowOk 7 (twT.getD 7 []) 0 = true := by kernel_rfl
end Go.Proofs
