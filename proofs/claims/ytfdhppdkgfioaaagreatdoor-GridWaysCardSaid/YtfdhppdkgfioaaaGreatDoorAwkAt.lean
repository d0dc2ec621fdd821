import Derived.Test.YtfdhppdkgfioaaaGreatDoorSl
section
/- A set's slice, and calls that give one. -/
namespace Go.Proofs
open Go.RowKit
set_option maxHeartbeats 8000000
set_option maxRecDepth 1000000
/-- A set's slice: what it reads as, and a capacity that Go allows. -/
def St (W : World) (v : Value) (l : List Cel) : Prop := Sl W v l ∧ ∃ (A : Option Addr) (cap : Nat), v = .slice A l.length cap ∧ l.length ≤ cap ∧ cap ≤ 9223372036854775807
theorem St.below {w w' : World} {v : Value} {l : List Cel} (h : St w v l) (hb : Below w.heap.size w w') : St w' v l := ⟨h.1.below hb, h.2⟩
/-- A call gives a set and no error, and keeps what was there. -/
def Gives (W : World) (X : List Cel) (e : Ending) (W' : World) : Prop := ∃ (A : Option Addr) (cap : Nat), e = .returned (.tuple #[.slice A X.length cap, .int .i64 0]) ∧ St W' (.slice A X.length cap) X ∧ Below W.heap.size W W'
theorem St.of_own {w : World} {B : Nat} {v : Value} {l : List Cel} (h : Own w B v l) : St w v l := by
  refine ⟨h.sl, ?_⟩
  rcases h.2 with ⟨rfl, h2⟩ | ⟨g, cap, cur, rfl, _, _, h3, h4, _⟩
  · exact ⟨none, 0, by rw [h2], by omega, by omega⟩
  · unfold maxLen at h4
    exact ⟨_, cap, rfl, h3, by omega⟩
theorem St.of_filled {w : World} {B n : Nat} {l : List Cel} (h : Filled w B n 24 l) (hn : l.length = n) (hl : n ≤ 4096) : St w (.slice (some ⟨B, 0, none⟩) n n) l := by
  subst hn
  exact ⟨Sl.row h.row h.lt, _, _, rfl, Nat.le_refl _, by omega⟩
theorem gives_own {W W' : World} {X : List Cel} {v : Value} (h : Own W' W.heap.size v X) (hB : Below W.heap.size W W') : Gives W X (.returned (.tuple #[v, .int .i64 0])) W' := by
  have hs := St.of_own h
  obtain ⟨A, cap, rfl⟩ := h.sl.form
  exact ⟨A, cap, rfl, hs, hB⟩
end Go.Proofs
end

section
/- A part of what G3 had: AwakeAt. -/
namespace Go.Proofs
open Go.RowKit
set_option maxHeartbeats 16000000
set_option maxRecDepth 1000000
/-- What awake says, from any world behind the first one. -/
def AwakeAt (w : World) : Prop := ∀ W, Below w.heap.size w W → Calls Tryz.prog 5 #[] W fun e w' => e = .returned (.bool true) ∧ Below W.heap.size W w'
end Go.Proofs
end
