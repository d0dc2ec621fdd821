/- Shades: the fixed example, and all mixes of a few tabs, reckoned. -/
import Derived.Test.YtahngoofinlhgaaShdP
import Derived.Test.YtahngoofinlhgaaAmE
namespace Go.Proofs
open Go.AM Go.RowKit
set_option maxRecDepth 1000000
theorem shd_names : NamesOk Try.prog := namesOk_of (by kernel_rfl)
theorem shd_mixed : Try.prog.follows .mixedOrders = true := by kernel_rfl
theorem shadeShop_runs : (callF Try.prog noSum 100000 9 [] h0).map (·.1) = some (.bool true) := by kernel_rfl
/-- The fixed example holds, from any world, and nothing old is turned. -/
theorem shadeShop_ok (w : World) : Calls Try.prog 9 #[] w fun e w' => e = .returned (.bool true) ∧ Below w.heap.size w w' := by
  have e := shadeShop_runs
  rw [callF_eq] at e
  obtain ⟨⟨v, h'⟩, he, hv⟩ := Option.map_eq_some_iff.1 e
  simp only at hv
  subst hv
  refine (closed_callS shd_names shd_mixed noSum_ok (w := w) he rfl).mono ?_
  rintro e w' ⟨v', θ', rfl, hv, _, hb⟩
  cases hv
  exact ⟨rfl, hb⟩
noncomputable def resRow (r : Option (Value × AHeap)) : Option (Nat × List Value) := match r with
  | some (.slice (some ⟨j, 0, none⟩) n _, h) => match h.get j with
    | some (.cells c) => match c.row 0 (n * 3) with
      | some l => some (n, l)
      | none => none
    | _ => none
  | _ => none
theorem row_result {f : FuncId} {args : List Value} {n : Nat} {l : List Value} (e : resRow (callF Try.prog noSum 100000 f args h0) = some (n, l)) (ha : args.all flat = true) (hl : l.all flat = true) (hn : 0 < n) (w : World) :
    Calls Try.prog f args.toArray w fun e w' => ∃ B o cap, e = .returned (.slice (some ⟨B, o, none⟩) n cap) ∧ B < w'.heap.size ∧ (∀ i v, l[i]? = some v → w'.cell? ⟨B, i + o, none⟩ = some v) ∧ Below w.heap.size w w' := by
  unfold resRow at e
  split at e
  · rename_i j n' c' h heq
    split at e
    · rename_i c hg
      split at e
      · rename_i l' hrow
        simp only [Option.some.injEq, Prod.mk.injEq] at e
        obtain ⟨rfl, rfl⟩ := e
        rw [callF_eq] at heq
        refine (closed_callS shd_names shd_mixed noSum_ok (w := w) heq ha).mono ?_
        rintro e' w' ⟨v', θ', rfl, hv, R, hb⟩
        obtain ⟨-, hbl, hor⟩ := R.obj j _ hg
        have hcr : CRel Try.prog θ' (θ'.f j) c w' := hor
        have hcells : ∀ i v, l'[i]? = some v → w'.cell? ⟨(θ'.f j).blk, i + (θ'.f j).sh, none⟩ = some v := fun i v hi => by
          obtain ⟨v2, e2, r2⟩ := hcr.at_ i v (by have := row_at hrow i v hi; simpa using this)
          rwa [flat_eq (List.all_eq_true.1 hl v (List.mem_of_getElem? hi)) r2] at e2
        cases hv with
        | slice _ _ => exact ⟨_, (θ'.f j).sh, _, by rw [Nat.zero_add], hbl, hcells, hb⟩
        | sliceO _ _ _ => exact ⟨_, (θ'.f j).sh, _, by rw [Nat.zero_add], hbl, hcells, hb⟩
        | sliceE _ _ => exact absurd hn (Nat.lt_irrefl 0)
        | sliceZ _ => exact absurd hn (Nat.lt_irrefl 0)
      · cases e
    · cases e
  · cases e
/-- All mixes of n tabs, in their order. -/
def mixL (n : Nat) : List Cel := (List.range n).flatMap fun (i : Nat) => (List.range n).flatMap fun (k : Nat) => if i < k then (List.range 7).map fun (e : Nat) => ((i : Int), (k : Int), (e : Int) + 1) else []
def flat3 (l : List Cel) : List Value := l.flatMap fun c => [.int .i64 c.1, .int .i64 c.2.1, .int .i64 c.2.2]
theorem mix2 : resRow (callF Try.prog noSum 100000 55 [.int .i64 2] h0) = some ((mixL 2).length, flat3 (mixL 2)) := by kernel_rfl
theorem mix3 : resRow (callF Try.prog noSum 100000 55 [.int .i64 3] h0) = some ((mixL 3).length, flat3 (mixL 3)) := by kernel_rfl
theorem mix4 : resRow (callF Try.prog noSum 100000 55 [.int .i64 4] h0) = some ((mixL 4).length, flat3 (mixL 4)) := by kernel_rfl
theorem mix5 : resRow (callF Try.prog noSum 100000 55 [.int .i64 5] h0) = some ((mixL 5).length, flat3 (mixL 5)) := by kernel_rfl
theorem mix6 : resRow (callF Try.prog noSum 100000 55 [.int .i64 6] h0) = some ((mixL 6).length, flat3 (mixL 6)) := by kernel_rfl
end Go.Proofs
