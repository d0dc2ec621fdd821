import Derived.Test.YtpickbchpnbffaaGreatSetOf
/- peel: the shell of a set, and the rest. -/
namespace Go.Proofs
open Go.RowKit Go.Shelf
set_option maxHeartbeats 16000000
set_option maxRecDepth 1000000
attribute [local go_sem] Oper.semAt_some
/-- All neighbours of a cell are in a set. -/
def insB (l : List Cel) (c : Cel) : Bool := (nearL c).all fun d => decide (d ∈ l)
theorem enters_nb : ∀ args w, (callFunc 75 args).run Tryz.prog w = .ok (.enter 75 args) w := enters_of Tryz.func75 (by kernel_rfl) rfl
/-- Some of the cells are not in a set. -/
def Missed (pre l : List Cel) : Prop := ∃ d, d ∈ pre ∧ d ∉ l
theorem missed_snoc (pre : List Cel) {d : Cel} {l : List Cel} (h : d ∉ l) : Missed (pre ++ [d]) l := ⟨d, List.mem_append.2 (.inr (List.mem_singleton.2 rfl)), h⟩
theorem missed_ins {pre l : List Cel} {c : Cel} (hp : pre <+: nearL c) (h : Missed pre l) : insB l c = false := by
  obtain ⟨d, h1, h2⟩ := h
  cases hb : insB l c with
  | false => rfl
  | true => exact absurd (of_decide_eq_true (List.all_eq_true.1 hb d (hp.subset h1))) h2
/-- Whose blocks are apart. -/
def ApartV (v u : Value) : Prop := v.ownBlock = none ∨ u.ownBlock = none ∨ v.ownBlock ≠ u.ownBlock
theorem Own.grownV {w w' : World} {B : Nat} {v : Value} {l : List Cel} {row : Option Nat} (h : Own w B v l) (hg : w.grownBy w' row) (hne : v.ownBlock = none ∨ v.ownBlock ≠ row) : Own w' B v l := World.ownsRow.kept h hg hne
theorem apart_one {w w' : World} {B : Nat} {v v' u : Value} {l : List Cel} {tmp : Obj} (hu : Own w B u l) (ha : ApartV v u) (hg : (w.alloc tmp).grownBy w' v.ownBlock) (hv : v'.ownBlock = v.ownBlock ∨ v'.ownBlock = some (w.heap.size + 1)) : Own w' B u l ∧ ApartV v' u := by
  have hu' := hu.alloc tmp
  refine ⟨hu'.grownV hg ?_, ?_⟩
  · rcases ha with h | h | h
    · rw [h]
      cases hub : u.ownBlock with
      | none => exact .inl rfl
      | some g => exact .inr (by simp)
    · exact .inl h
    · exact .inr (Ne.symm h)
  · rcases hv with h | h
    · rw [show ApartV v' u = (v'.ownBlock = none ∨ u.ownBlock = none ∨ v'.ownBlock ≠ u.ownBlock) from rfl, h]
      exact ha
    · refine .inr ?_
      cases hub : u.ownBlock with
      | none => exact .inl rfl
      | some g =>
        refine .inr ?_
        rw [h]
        intro e
        have := (hu'.lt g hub).2
        rw [World.size_alloc] at this
        injection e with e
        omega
theorem ApartV.symm {v u : Value} (h : ApartV v u) : ApartV u v := by
  rcases h with h | h | h
  · exact .inr (.inl h)
  · exact .inl h
  · exact .inr (.inr (Ne.symm h))
theorem Own.frame3 {n B : Nat} {W W' : World} {v : Value} {l : List Cel} (h : Own W B v l) (hF : Frame3 n W W') : Own W' B v l := ⟨h.1, h.2.imp id fun ⟨g, cap, cur, h1, h2, hg, r⟩ => ⟨g, cap, cur, h1, h2, hF.cells g _ hg rfl, r⟩⟩
theorem Own.spent {n B : Nat} {W W' : World} {v : Value} {l : List Cel} (h : Own W B v l) (hF : Spent n W W') : Own W' B v l := ⟨h.1, h.2.imp id fun ⟨g, cap, cur, h1, h2, hg, r⟩ => ⟨g, cap, cur, h1, h2, hF.cells g _ hg rfl, r⟩⟩
/-- The loop's state between two rounds. -/
structure PeelS (w : World) (Ab b : Nat) (l : List Cel) (k : Nat) (vR vS : Value) (Ds : List Nat) (W : World) : Prop where
  box : Boxed W w.heap.size 22 vS
  shell : Own W w.heap.size vS ((l.take k).filter fun c => !insB l c)
  rest : Own W w.heap.size vR ((l.take k).filter (insB l))
  apart : ApartV vR vS
  all : Boxed W Ab 78 (.map (some b))
  set : CSet W b (setL l)
  hb : w.heap.size ≤ b
  hA : w.heap.size < Ab
  defs : Defs W w.heap.size Ds
  below : Below w.heap.size w W
end Go.Proofs
