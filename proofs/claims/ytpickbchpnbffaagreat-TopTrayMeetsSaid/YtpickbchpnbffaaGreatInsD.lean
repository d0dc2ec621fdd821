/- insert: isIn, obstacleOf, meet. -/
import Derived.Test.YtpickbchpnbffaaGreatInsC
namespace Go.Proofs
open Go.RowKit
set_option maxHeartbeats 8000000
set_option maxRecDepth 1000000
instance isInDec (b : Cel × Cel) (s : Cel) : Decidable (isInB b s) := by unfold isInB; infer_instance
/-- What obstacleOf keeps of a base. -/
def obsV (m : Nat) (b : Cel × Cel) : Value := .agg #[.map (some m), .int .i64 b.1.1, .int .i64 b.1.2.1, .int .i64 b.1.2.2, .int .i64 b.2.1, .int .i64 b.2.2.1, .int .i64 b.2.2.2]
/-- The box of a base, or of none. -/
def baseB (l : List Cel) : Cel × Cel := match l with
  | [] => boxO
  | h :: t => bndK h (h :: t) (h :: t).length
theorem bound_any (l : List Cel) (v : Value) (w : World) (hl : Sl w v l) (hc : chkI l = 0) :
    Calls Tryz.prog 86 #[v] w fun e w' => (∃ r : Int, e = .returned (.tuple #[boxV (baseB l), .int .i64 r])) ∧ Below w.heap.size w w' := by
  cases l with
  | nil => exact (bound0 v w hl).mono fun e w' h => ⟨⟨_, h.1⟩, h.2⟩
  | cons h t => exact (Bound_ok (h :: t) h v w hl rfl hc).mono fun e w' h => ⟨⟨_, h.1⟩, h.2⟩
theorem base_in {l : List Cel} {m : Int} (hm : 0 ≤ m) (hn : ∀ c ∈ l, Near c m) : Near (baseB l).1 m ∧ Near (baseB l).2 m ∧ InBox l (baseB l) ∧ ((baseB l).1.1 ≤ (baseB l).2.1 ∧ (baseB l).1.2.1 ≤ (baseB l).2.2.1 ∧ (baseB l).1.2.2 ≤ (baseB l).2.2.2) := by
  cases l with
  | nil =>
    have e : baseB [] = ((0, 0, 0), (0, 0, 0)) := rfl
    rw [e]
    unfold Near
    dsimp only
    exact ⟨by omega, by omega, fun c h => by simp at h, by omega⟩
  | cons h t =>
    obtain ⟨h1, h2, h3⟩ := box_in (l := h :: t) (h := h) rfl hn
    have h4 := h3 h (List.mem_cons_self ..)
    have e : baseB (h :: t) = bndK h (h :: t) (h :: t).length := rfl
    rw [e]
    exact ⟨h1, h2, h3, by omega⟩
theorem seven_cells {V : World} {B : Nat} {c0 c1 c2 c3 c4 c5 c6 : Value} {T : TypeId} (h : V.heap[B]? = some (.cells #[c0, c1, c2, c3, c4, c5, c6] T (0, 0))) :
    (V.cell? ⟨B, 0, none⟩ = some c0 ∧ V.cell? ⟨B, 1, none⟩ = some c1 ∧ V.cell? ⟨B, 2, none⟩ = some c2 ∧ V.cell? ⟨B, 3, none⟩ = some c3 ∧ V.cell? ⟨B, 4, none⟩ = some c4 ∧ V.cell? ⟨B, 5, none⟩ = some c5 ∧ V.cell? ⟨B, 6, none⟩ = some c6) ∧
    (V.frozen? ⟨B, 0, none⟩ = false ∧ V.frozen? ⟨B, 1, none⟩ = false ∧ V.frozen? ⟨B, 2, none⟩ = false ∧ V.frozen? ⟨B, 3, none⟩ = false ∧ V.frozen? ⟨B, 4, none⟩ = false ∧ V.frozen? ⟨B, 5, none⟩ = false ∧ V.frozen? ⟨B, 6, none⟩ = false) := by
  have zl := fun j => cell_of_row V B j _ _ _ h
  have fz := fun j => frozen_of_row V B j _ _ h
  have z0 := zl 0
  have z1 := zl 1
  have z2 := zl 2
  have z3 := zl 3
  have z4 := zl 4
  have z5 := zl 5
  have z6 := zl 6
  simp at z0 z1 z2 z3 z4 z5 z6
  exact ⟨⟨z0, z1, z2, z3, z4, z5, z6⟩, fz 0, fz 1, fz 2, fz 3, fz 4, fz 5, fz 6⟩
theorem six_stored {W : World} {B : Nat} {c0 c1 c2 c3 c4 c5 c6 d1 d2 d3 d4 d5 d6 : Value} {T : TypeId} (h : W.heap[B]? = some (.cells #[c0, c1, c2, c3, c4, c5, c6] T (0, 0))) :
    ((((((W.setCell ⟨B, 1, none⟩ d1).setCell ⟨B, 2, none⟩ d2).setCell ⟨B, 3, none⟩ d3).setCell ⟨B, 4, none⟩ d4).setCell ⟨B, 5, none⟩ d5).setCell ⟨B, 6, none⟩ d6).heap[B]? = some (.cells #[c0, d1, d2, d3, d4, d5, d6] T (0, 0)) := by
  have hz := (heap_setCell_same _ B 6 _ _ d6 (heap_setCell_same _ B 5 _ _ d5 (heap_setCell_same _ B 4 _ _ d4 (heap_setCell_same _ B 3 _ _ d3 (heap_setCell_same _ B 2 _ _ d2 (heap_setCell_same _ B 1 _ _ d1 h))))))
  simpa using hz
theorem seven_stored {W : World} {B : Nat} {c0 c1 c2 c3 c4 c5 c6 d0 d1 d2 d3 d4 d5 d6 : Value} {T : TypeId} (h : W.heap[B]? = some (.cells #[c0, c1, c2, c3, c4, c5, c6] T (0, 0))) :
    (((((((W.setCell ⟨B, 0, none⟩ d0).setCell ⟨B, 1, none⟩ d1).setCell ⟨B, 2, none⟩ d2).setCell ⟨B, 3, none⟩ d3).setCell ⟨B, 4, none⟩ d4).setCell ⟨B, 5, none⟩ d5).setCell ⟨B, 6, none⟩ d6).heap[B]? = some (.cells #[d0, d1, d2, d3, d4, d5, d6] T (0, 0)) := by
  have hz := (heap_setCell_same _ B 6 _ _ d6 (heap_setCell_same _ B 5 _ _ d5 (heap_setCell_same _ B 4 _ _ d4 (heap_setCell_same _ B 3 _ _ d3 (heap_setCell_same _ B 2 _ _ d2 (heap_setCell_same _ B 1 _ _ d1 (heap_setCell_same _ B 0 _ _ d0 h)))))))
  simpa using hz
end Go.Proofs
