import Derived.Test.YtokhbkhoidpefaaGreatDoorTwR
namespace Go.Proofs
set_option maxRecDepth 1000000
theorem twR_row16 : rowROk 16 (twT.getD 16 []) 0 = true := by kernel_rfl
theorem twR_row17 : rowROk 17 (twT.getD 17 []) 0 = true := by kernel_rfl
theorem twR_row18 : rowROk 18 (twT.getD 18 []) 0 = true := by kernel_rfl
theorem twR_row19 : rowROk 19 (twT.getD 19 []) 0 = true := by kernel_rfl
theorem twR_row20 : rowROk 20 (twT.getD 20 []) 0 = true := by kernel_rfl
theorem twR_row21 : rowROk 21 (twT.getD 21 []) 0 = true := by kernel_rfl
theorem twR_row22 : rowROk 22 (twT.getD 22 []) 0 = true := by kernel_rfl
theorem twR_row23 : rowROk 23 (twT.getD 23 []) 0 = true := by kernel_rfl
end Go.Proofs
