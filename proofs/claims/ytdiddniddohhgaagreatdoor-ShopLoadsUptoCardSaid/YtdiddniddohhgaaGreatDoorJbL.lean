/- Jobs: as those of the reference; few ones, or too many. -/
import Derived.Test.YtdiddniddohhgaaGreatDoorJobE
import Derived.Test.YtdiddniddohhgaaGreatDoorFlat
import Derived.Lib.AppendZeros
namespace Go.Proofs
open Go.RowKit Go.MapKept
set_option maxHeartbeats 16000000
set_option maxRecDepth 1000000
theorem takeV_len {α : Type} {l : List α} {k : Nat} (h : k ≤ l.length) : (l.take k).length = k := by rw [List.length_take]; omega
theorem takeV_succ {α : Type} {l : List α} {k : Nat} {x : α} (h : l[k]? = some x) : l.take (k + 1) = l.take k ++ [x] := by rw [List.take_add_one, h]; rfl
theorem flatV_row {w : World} {b : Nat} {T : TypeId} {cs : List Value} (h : w.heap[b]? = some (.cells cs.toArray T (0, 0))) : FlatAt w b 0 cs := fun j u hj => by
  rw [Nat.zero_add, cell_of_row w b j _ _ _ h]
  simpa using hj
theorem wrapsV {k : Nat} (h : k < 1048576) : wrap64 ((k : Int) + 1) = (k : Int) + 1 ∧ IntKind.i64.wrap ((k : Int) + 1) = (k : Int) + 1 := ⟨wrap64_small (by omega), wrap_small (by omega)⟩
abbrev VS := Option Addr × Nat × Nat
def vS (s : VS) : Value := .slice s.1 s.2.1 s.2.2
abbrev JobV := ByteArray × VS × VS
def encJ (t : JobV) : List Value := [.string t.1, vS t.2.1, vS t.2.2]
theorem encJ_len : ∀ t, (encJ t).length = 3 := fun _ => rfl
theorem encJ_one : ∀ t, ∀ u ∈ encJ t, u.oneCell' = true := fun t u hu => by
  simp only [encJ, List.mem_cons, List.not_mem_nil, or_false] at hu
  rcases hu with rfl | rfl | rfl <;> rfl
theorem jbv_cells {w : World} {A : Option Addr} {n cap : Nat} {l : List JobV} (h : SlF encJ w (.slice A n cap) l) {k : Nat} {x : JobV} (hk : l[k]? = some x) :
    ∃ b o, A = some ⟨b, o, none⟩ ∧ n = l.length ∧ b < w.heap.size ∧ w.cell? ⟨b, o + k * 3, none⟩ = some (.string x.1) ∧ w.cell? ⟨b, o + k * 3 + 1, none⟩ = some (.slice x.2.1.1 x.2.1.2.1 x.2.1.2.2) ∧ w.cell? ⟨b, o + k * 3 + 2, none⟩ = some (.slice x.2.2.1 x.2.2.2.1 x.2.2.2.2) := by
  obtain ⟨b, o, h1, h2, h3, h4⟩ := h.cells encJ_len hk
  exact ⟨b, o, h1, h2, h3, h4 0 _ rfl, h4 1 _ rfl, h4 2 _ rfl⟩
/-- What the lists of some jobs hold. -/
def InJ (w : World) (L : List JobV) (J : List JobT) : Prop := L.length = J.length ∧ ∀ (k : Nat) (x : JobV) (j : JobT), L[k]? = some x → J[k]? = some j → x.1 = j.1 ∧ SlI w (vS x.2.1) j.2.1 ∧ SlI w (vS x.2.2) j.2.2
theorem InJ.below {w w' : World} {L : List JobV} {J : List JobT} (h : InJ w L J) (hb : Below w.heap.size w w') : InJ w' L J :=
  ⟨h.1, fun k x j hx hj => by obtain ⟨h1, h2, h3⟩ := h.2 k x j hx hj; exact ⟨h1, h2.below hb, h3.below hb⟩⟩
theorem InJ.some_ {w : World} {L : List JobV} {J : List JobT} (h : InJ w L J) {k : Nat} (hk : k < J.length) : ∃ nm A n c A' n' c' t d, L[k]? = some (nm, (A, n, c), (A', n', c')) ∧ J[k]? = some (nm, t, d) ∧ SlI w (.slice A n c) t ∧ SlI w (.slice A' n' c') d ∧ n = t.length ∧ n' = d.length := by
  obtain ⟨⟨nm', ⟨A, n, c⟩, A', n', c'⟩, hL⟩ : ∃ x, L[k]? = some x := ⟨_, List.getElem?_eq_getElem (by rw [h.1]; exact hk)⟩
  obtain ⟨⟨nm, t, d⟩, hJ⟩ : ∃ x, J[k]? = some x := ⟨_, List.getElem?_eq_getElem hk⟩
  obtain ⟨h1, h2, h3⟩ := h.2 k _ _ hL hJ
  dsimp only at h1 h2 h3
  subst h1
  unfold vS at h2 h3
  dsimp only at h2 h3
  have e1 := h2.form
  have e2 := h3.form
  obtain ⟨_, _, e1⟩ := e1
  obtain ⟨_, _, e2⟩ := e2
  injection e1 with _ e1 _
  injection e2 with _ e2 _
  exact ⟨_, A, n, c, A', n', c', t, d, hL, hJ, h2, h3, e1, e2⟩
theorem InJ.slj {w : World} {v : Value} {L : List JobV} {J : List JobT} (h : SlF encJ w v L) (hi : InJ w L J) : SlJ w v J := by
  rcases h with ⟨rfl, rfl⟩ | ⟨a, cap, rfl, h⟩
  · exact .inl ⟨rfl, List.eq_nil_of_length_eq_zero hi.1.symm⟩
  · refine .inr ⟨a, cap, by rw [hi.1], fun hJ => ?_⟩
    have hL : L ≠ [] := fun e => by
      subst e
      exact hJ (List.eq_nil_of_length_eq_zero hi.1.symm)
    obtain ⟨h1, h2, h3⟩ := h hL
    obtain ⟨b, o, s⟩ := a
    obtain rfl : s = none := h1
    refine ⟨rfl, h2, fun i j hj => ?_⟩
    obtain ⟨x, hx⟩ : ∃ x, L[i]? = some x := ⟨_, List.getElem?_eq_getElem (by rw [hi.1]; exact (List.getElem?_eq_some_iff.1 hj).1)⟩
    have hs : SlF encJ w (.slice (some ⟨b, o, none⟩) L.length cap) L := .inr ⟨_, cap, rfl, h⟩
    obtain ⟨b', o', e, -, -, c0, c1, c2⟩ := jbv_cells hs hx
    injection e with e
    injection e with e1 e2
    subst e1 e2
    obtain ⟨g1, g2, g3⟩ := hi.2 i x j hx hj
    exact ⟨_, _, by rw [← g1]; exact c0, c1, c2, g2, g3⟩
/-- The jobs that are few, or too many, with short lists. -/
def ShortJ (l : List JobV) (n : Nat) : Prop := (l.length ≤ n ∨ 32 < l.length) ∧ l.length ≤ 35 ∧ ∀ (k : Nat) (x : JobV), l[k]? = some x → x.2.1.2.1 ≤ 11 ∧ x.2.2.2.1 ≤ 11
def ShortJS (l : List JobV) (n : Nat) (w : World) (e : Ending) (w' : World) : Prop := (∃ r : Bool, e = .returned (.bool r) ∧ (r = true → ShortJ l n)) ∧ Below w.heap.size w w'
theorem shortJ_mk {l : List JobV} {n : Nat} {w w' : World} (r : Bool) (h : r = true → ShortJ l n) (hb : Below w.heap.size w w') : ShortJS l n w (.returned (.bool r)) w' := ⟨⟨r, rfl, h⟩, hb⟩
end Go.Proofs
