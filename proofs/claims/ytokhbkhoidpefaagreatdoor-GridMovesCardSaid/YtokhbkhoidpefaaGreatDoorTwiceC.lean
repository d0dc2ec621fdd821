import Derived.Test.YtokhbkhoidpefaaGreatDoorTwice
namespace Go.Proofs
set_option maxRecDepth 1000000
theorem twice_row16 : rowOk 16 (twT.getD 16 []) 0 = true := by kernel_rfl
theorem twice_row17 : rowOk 17 (twT.getD 17 []) 0 = true := by kernel_rfl
theorem twice_row18 : rowOk 18 (twT.getD 18 []) 0 = true := by kernel_rfl
theorem twice_row19 : rowOk 19 (twT.getD 19 []) 0 = true := by kernel_rfl
theorem twice_row20 : rowOk 20 (twT.getD 20 []) 0 = true := by kernel_rfl
theorem twice_row21 : rowOk 21 (twT.getD 21 []) 0 = true := by kernel_rfl
theorem twice_row22 : rowOk 22 (twT.getD 22 []) 0 = true := by kernel_rfl
theorem twice_row23 : rowOk 23 (twT.getD 23 []) 0 = true := by kernel_rfl
end Go.Proofs
