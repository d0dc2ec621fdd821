import Derived.Test.YtokhbkhoidpefaaGreatDoorTwice
namespace Go.Proofs
set_option maxRecDepth 1000000
theorem twice_row8 : rowOk 8 (twT.getD 8 []) 0 = true := by kernel_rfl
theorem twice_row9 : rowOk 9 (twT.getD 9 []) 0 = true := by kernel_rfl
theorem twice_row10 : rowOk 10 (twT.getD 10 []) 0 = true := by kernel_rfl
theorem twice_row11 : rowOk 11 (twT.getD 11 []) 0 = true := by kernel_rfl
theorem twice_row12 : rowOk 12 (twT.getD 12 []) 0 = true := by kernel_rfl
theorem twice_row13 : rowOk 13 (twT.getD 13 []) 0 = true := by kernel_rfl
theorem twice_row14 : rowOk 14 (twT.getD 14 []) 0 = true := by kernel_rfl
theorem twice_row15 : rowOk 15 (twT.getD 15 []) 0 = true := by kernel_rfl
end Go.Proofs
