/- Loads: rows of loads of the call's own; a copy of a list with a number more. -/
import Derived.Test.YtdiddniddohhgaaGreatDoorIteE
import Derived.Test.YtdiddniddohhgaaGreatDoorJobB
namespace Go.Proofs
open Go.RowKit Go.MapKept
set_option maxHeartbeats 16000000
set_option maxRecDepth 1000000
def encO (o : LoadT) : List Value := [.string o.1, .int .i64 o.2]
theorem encO_len : ∀ t, (encO t).length = 2 := fun _ => rfl
theorem encO_one : ∀ t, ∀ u ∈ encO t, u.oneCell' = true := fun t u hu => by
  simp only [encO, List.mem_cons, List.not_mem_nil, or_false] at hu
  rcases hu with rfl | rfl <;> rfl
theorem flatO_set (v : Int) : ∀ (s : List LoadT) (j : Nat) (o : LoadT), s[j]? = some o → flatF encO (s.set j (o.1, v)) = (flatF encO s).set (j * 2 + 1) (.int .i64 v)
  | [], _, _, h => by simp at h
  | a :: s, 0, o, h => by
    obtain rfl : a = o := by simpa using h
    simp [flatF, encO]
  | a :: s, j + 1, o, h => by
    have ih := flatO_set v s j o (by simpa using h)
    have e1 : flatF encO ((a :: s).set (j + 1) (o.1, v)) = .string a.1 :: .int .i64 a.2 :: flatF encO (s.set j (o.1, v)) := by simp [flatF, encO]
    have e2 : flatF encO (a :: s) = .string a.1 :: .int .i64 a.2 :: flatF encO s := by simp [flatF, encO]
    rw [e1, e2, ih, show (j + 1) * 2 + 1 = j * 2 + 1 + 1 + 1 by omega]
    rfl
theorem ownO_store {T : TypeId} {w : World} {B g n cap : Nat} {s : List LoadT} (h : OwnF encO 2 T w B (.slice (some ⟨g, 0, none⟩) n cap) s) (hn : n = s.length) {j : Nat} {o : LoadT} (ho : s[j]? = some o) (v : Int) :
    OwnF encO 2 T (w.setCell ⟨g, j * 2 + 1, none⟩ (.int .i64 v)) B (.slice (some ⟨g, 0, none⟩) n cap) (s.set j (o.1, v)) := by
  subst hn
  have h1 := (World.ownsRow.stored h (j * 2 + 1) (.int .i64 v)).1
  unfold OwnF
  rw [List.length_set, flatO_set v s j o ho]
  exact h1
theorem ownF_fz {α : Type} {enc : α → List Value} {s : Nat} {T : TypeId} {w : World} {B g n cap : Nat} {l : List α} (h : OwnF enc s T w B (.slice (some ⟨g, 0, none⟩) n cap) l) (q : Nat) : w.frozen? ⟨g, q, none⟩ = false := by
  rcases h.2 with ⟨e, -⟩ | ⟨g', cap', cur, e, -, hg, -⟩
  · cases e
  · injection e with e
    injection e with e
    injection e with e _
    subst e
    exact frozen_of_row w g q _ _ hg
theorem load_cells {T : TypeId} {w : World} {B : Nat} {v : Value} {s : List LoadT} (h : OwnF encO 2 T w B v s) {k : Nat} {o : LoadT} (hk : s[k]? = some o) :
    ∃ g cap, v = .slice (some ⟨g, 0, none⟩) s.length cap ∧ B ≤ g ∧ g < w.heap.size ∧ w.cell? ⟨g, k * 2, none⟩ = some (.string o.1) ∧ w.cell? ⟨g, k * 2 + 1, none⟩ = some (.int .i64 o.2) := by
  rcases h.form encO_len with ⟨-, rfl⟩ | ⟨g, cap, rfl, h1, h2, h3⟩
  · simp at hk
  · have e0 := h3 (k * 2) (.string o.1) (by have := flatF_get encO_len (j := 0) hk (by omega); rw [Nat.add_zero] at this; rw [this]; rfl)
    have e1 := h3 (k * 2 + 1) (.int .i64 o.2) (by have := flatF_get encO_len (j := 1) hk (by omega); rw [this]; rfl)
    rw [Nat.zero_add] at e0 e1
    exact ⟨g, cap, rfl, h1, h2, e0, e1⟩
/-- A list as it reads in a world. -/
def rowI (w : World) : Value → List Int
  | .slice (some a) n _ => (List.range n).map fun i => match w.cell? ⟨a.block, a.off + i, none⟩ with
    | some (.int _ x) => x
    | _ => 0
  | _ => []
theorem rowI_sl {w : World} {v : Value} {l : List Int} (h : SlI w v l) : rowI w v = l := by
  rcases h with ⟨rfl, rfl⟩ | ⟨a, cap, rfl, h⟩
  · rfl
  · unfold rowI
    refine List.ext_getElem? fun i => ?_
    by_cases hi : i < l.length
    · have hne : l ≠ [] := fun e => by rw [e] at hi; simp at hi
      obtain ⟨h1, h2, h3⟩ := h hne
      have hx : l[i]? = some l[i] := List.getElem?_eq_getElem hi
      have h4 : w.cell? ⟨a.block, a.off + i, none⟩ = some (.int .i64 l[i]) := h3 i _ hx
      rw [List.getElem?_map, List.getElem?_range hi, hx]
      show some (match w.cell? ⟨a.block, a.off + i, none⟩ with
        | some (.int _ x) => x
        | _ => 0) = some l[i]
      rw [h4]
    · rw [List.getElem?_eq_none (by simp; omega), List.getElem?_eq_none (by omega)]
end Go.Proofs
