/- What the listed variables give: the table of powers of ten. -/
import Derived.Test.YtfdhppdkgfioaaaGreatDoorAwk
import Derived.Test.YtfdhppdkgfioaaaGreatDoorRows
import Derived.Lib.LaidTab
import Derived.Stop.LaidErr
import Derived.MakeChecks
import Derived.LaidMore
namespace Go.Proofs.YtfdhppdkgfioaaaGreatDoor
open Go.AM Go.RowKit
set_option maxRecDepth 1000000
def pow10Z : List Int := [1, 10, 100, 1000, 10000, 100000, 1000000, 10000000, 100000000, 1000000000, 10000000000, 100000000000, 1000000000000, 10000000000000, 100000000000000, 1000000000000000, 10000000000000000, 100000000000000000, 1000000000000000000, 10000000000000000000]
theorem gok_of {W : World} {n1 n2 n3 : String} {d1 d2 : DataW Unit} (h3 : Tryz.prog.globalNamed n3 = some 1) (h : laidMet Tryz.prog [(n1, d1), (n2, d2), (n3, Rows.laid_internal_strconv_uint64pow10)] W) : GOk gN gRows W := by
  have h' : laidMet Tryz.prog ((n3, Lib.tabData .u64 pow10Z) :: []) W := h.tail.tail
  have hT := Lib.tabIs_of_head h3 (show (Tryz.prog.globals[1]?).map (·.type) = some 267 by kernel_rfl) Tryz.underlying267 Tryz.underlying127 (by kernel_rfl) (by kernel_rfl) h'
  have hc := fun i hi => hT.cell h3 i hi
  have h0 := hc 0 (by decide)
  have hlt : 1 < W.heap.size := by
    unfold World.cell? at h0
    split at h0
    · rename_i hh
      exact (Array.getElem?_eq_some_iff.1 hh).1
    · cases h0
  refine ⟨hlt, fun r hr => ?_⟩
  obtain rfl := List.mem_singleton.1 hr
  refine ⟨Nat.lt_succ_self _, gRows_flat _ (List.mem_singleton.2 rfl), fun k v hk => ?_⟩
  have hk' : k < pow10Z.length := (List.getElem?_eq_some_iff.1 hk).1
  have := hc k hk'
  rw [this]
  have e : (pow10L)[k]? = some (.int .u64 (pow10Z.getD k 0)) := by
    have : pow10L = pow10Z.map fun n => Value.int .u64 n := rfl
    rw [this, List.getElem?_map, List.getElem?_eq_getElem hk']
    simp [List.getD, List.getElem?_eq_getElem hk']
  exact (e.symm.trans hk).symm ▸ rfl
end Go.Proofs.YtfdhppdkgfioaaaGreatDoor
