import Derived.Test.YtokhbkhoidpefaaGreatDoorTwiceA
import Derived.Test.YtokhbkhoidpefaaGreatDoorTwiceB
import Derived.Test.YtokhbkhoidpefaaGreatDoorTwiceC
import Derived.Test.YtokhbkhoidpefaaGreatDoorTwRa
import Derived.Test.YtokhbkhoidpefaaGreatDoorTwRb
import Derived.Test.YtokhbkhoidpefaaGreatDoorTwRc
section
namespace Go.Proofs
open Go.RowKit
def twN (m n : Nat) : Nat := (twT.getD m []).getD n 0
theorem twice_ok (m n : Nat) (hm : m < 24) (hn : n < 24) (w : World) : Calls Tryz.prog 12 #[.int .i64 m, .int .i64 n] w fun e w' => e = .returned (.tuple #[.int .i64 (twN m n), .int .i64 0]) ∧ Below w.heap.size w w' := by
  have hl : ∀ m, m < 24 → (twT.getD m []).length = 24 := by decide
  have key : rowOk m (twT.getD m []) 0 = true → Calls Tryz.prog 12 #[.int .i64 m, .int .i64 n] w fun e w' => e = .returned (.tuple #[.int .i64 (twN m n), .int .i64 0]) ∧ Below w.heap.size w w' := fun h => by
    have hi : (twT.getD m [])[n]? = some (twN m n) := by
      unfold twN
      rw [List.getD_eq_getElem?_getD (l := twT.getD m [])]
      rw [List.getElem?_eq_getElem (by rw [hl m hm]; exact hn)]
      rfl
    have := twOk_calls (rowOk_spec h hi) w
    rwa [Nat.zero_add] at this
  obtain rfl | rfl | rfl | rfl | rfl | rfl | rfl | rfl | rfl | rfl | rfl | rfl | rfl | rfl | rfl | rfl | rfl | rfl | rfl | rfl | rfl | rfl | rfl | rfl : m = 0 ∨ m = 1 ∨ m = 2 ∨ m = 3 ∨ m = 4 ∨ m = 5 ∨ m = 6 ∨ m = 7 ∨ m = 8 ∨ m = 9 ∨ m = 10 ∨ m = 11 ∨ m = 12 ∨ m = 13 ∨ m = 14 ∨ m = 15 ∨ m = 16 ∨ m = 17 ∨ m = 18 ∨ m = 19 ∨ m = 20 ∨ m = 21 ∨ m = 22 ∨ m = 23 := by omega
  · exact key twice_row0
  · exact key twice_row1
  · exact key twice_row2
  · exact key twice_row3
  · exact key twice_row4
  · exact key twice_row5
  · exact key twice_row6
  · exact key twice_row7
  · exact key twice_row8
  · exact key twice_row9
  · exact key twice_row10
  · exact key twice_row11
  · exact key twice_row12
  · exact key twice_row13
  · exact key twice_row14
  · exact key twice_row15
  · exact key twice_row16
  · exact key twice_row17
  · exact key twice_row18
  · exact key twice_row19
  · exact key twice_row20
  · exact key twice_row21
  · exact key twice_row22
  · exact key twice_row23
end Go.Proofs
end

section
namespace Go.Proofs
open Go.RowKit
theorem refTwice_ok (m n : Nat) (hm : m < 24) (hn : n < 24) (w : World) : Calls Tryz.prog 24 #[.int .i64 m, .int .i64 n] w fun e w' => e = .returned (.int .i64 (twN m n)) ∧ Below w.heap.size w w' := by
  have hl : ∀ m, m < 24 → (twT.getD m []).length = 24 := by decide
  have key : rowROk m (twT.getD m []) 0 = true → Calls Tryz.prog 24 #[.int .i64 m, .int .i64 n] w fun e w' => e = .returned (.int .i64 (twN m n)) ∧ Below w.heap.size w w' := fun h => by
    have hi : (twT.getD m [])[n]? = some (twN m n) := by
      unfold twN
      rw [List.getD_eq_getElem?_getD (l := twT.getD m [])]
      rw [List.getElem?_eq_getElem (by rw [hl m hm]; exact hn)]
      rfl
    have := twROk_calls (rowROk_spec h hi) w
    rwa [Nat.zero_add] at this
  obtain rfl | rfl | rfl | rfl | rfl | rfl | rfl | rfl | rfl | rfl | rfl | rfl | rfl | rfl | rfl | rfl | rfl | rfl | rfl | rfl | rfl | rfl | rfl | rfl : m = 0 ∨ m = 1 ∨ m = 2 ∨ m = 3 ∨ m = 4 ∨ m = 5 ∨ m = 6 ∨ m = 7 ∨ m = 8 ∨ m = 9 ∨ m = 10 ∨ m = 11 ∨ m = 12 ∨ m = 13 ∨ m = 14 ∨ m = 15 ∨ m = 16 ∨ m = 17 ∨ m = 18 ∨ m = 19 ∨ m = 20 ∨ m = 21 ∨ m = 22 ∨ m = 23 := by omega
  · exact key twR_row0
  · exact key twR_row1
  · exact key twR_row2
  · exact key twR_row3
  · exact key twR_row4
  · exact key twR_row5
  · exact key twR_row6
  · exact key twR_row7
  · exact key twR_row8
  · exact key twR_row9
  · exact key twR_row10
  · exact key twR_row11
  · exact key twR_row12
  · exact key twR_row13
  · exact key twR_row14
  · exact key twR_row15
  · exact key twR_row16
  · exact key twR_row17
  · exact key twR_row18
  · exact key twR_row19
  · exact key twR_row20
  · exact key twR_row21
  · exact key twR_row22
  · exact key twR_row23
end Go.Proofs
end
