import Derived.Test.YtokhbkhoidpefaaGreatDoorTwR
namespace Go.Proofs
set_option maxRecDepth 1000000
theorem twR_row8 : rowROk 8 (twT.getD 8 []) 0 = true := by kernel_rfl
theorem twR_row9 : rowROk 9 (twT.getD 9 []) 0 = true := by kernel_rfl
theorem twR_row10 : rowROk 10 (twT.getD 10 []) 0 = true := by kernel_rfl
theorem twR_row11 : rowROk 11 (twT.getD 11 []) 0 = true := by kernel_rfl
theorem twR_row12 : rowROk 12 (twT.getD 12 []) 0 = true := by kernel_rfl
theorem twR_row13 : rowROk 13 (twT.getD 13 []) 0 = true := by kernel_rfl
theorem twR_row14 : rowROk 14 (twT.getD 14 []) 0 = true := by kernel_rfl
theorem twR_row15 : rowROk 15 (twT.getD 15 []) 0 = true := by kernel_rfl
end Go.Proofs
