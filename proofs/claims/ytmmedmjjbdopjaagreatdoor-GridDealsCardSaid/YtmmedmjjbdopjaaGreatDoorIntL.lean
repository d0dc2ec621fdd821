/- Slices of ints: what a slice value reads as. -/
import Derived.Test.YtmmedmjjbdopjaaGreatDoorOutP
namespace Go.Proofs
open Go.RowKit
set_option maxRecDepth 1000000
def valI (x : Int) : Value := .int .i64 x
def IAt (w : World) (b o : Nat) (l : List Int) : Prop := ∀ i x, l[i]? = some x → w.cell? ⟨b, o + i, none⟩ = some (.int .i64 x)
/-- A slice value that reads as a list of ints: nil, empty or not. -/
def SlI (w : World) (v : Value) (l : List Int) : Prop :=
  (v = .slice none 0 0 ∧ l = []) ∨ ∃ (a : Addr) (cap : Nat), v = .slice (some a) l.length cap ∧ (l ≠ [] → a.spot = none ∧ a.block < w.heap.size ∧ IAt w a.block a.off l)
theorem IAt.below {w w' : World} {b o : Nat} {l : List Int} (h : IAt w b o l) {B : Nat} (hb : Below B w w') (hB : b < B) : IAt w' b o l := fun i x hi => (hb.cell (p := ⟨b, _, none⟩) hB).trans (h i x hi)
theorem SlI.below {w w' : World} {v : Value} {l : List Int} (h : SlI w v l) (hb : Below w.heap.size w w') : SlI w' v l := by
  rcases h with h | ⟨a, cap, rfl, h⟩
  · exact .inl h
  · refine .inr ⟨a, cap, rfl, fun hl => ?_⟩
    obtain ⟨h1, h2, h3⟩ := h hl
    exact ⟨h1, Nat.lt_of_lt_of_le h2 hb.size, h3.below hb h2⟩
theorem SlI.row {w : World} {b o cap : Nat} {l : List Int} (h : IAt w b o l) (hb : b < w.heap.size) : SlI w (.slice (some ⟨b, o, none⟩) l.length cap) l := .inr ⟨_, cap, rfl, fun _ => ⟨rfl, hb, h⟩⟩
theorem SlI.form {w : World} {v : Value} {l : List Int} (h : SlI w v l) : ∃ (A : Option Addr) (cap : Nat), v = .slice A l.length cap := by
  rcases h with ⟨rfl, rfl⟩ | ⟨a, cap, rfl, _⟩
  · exact ⟨none, 0, rfl⟩
  · exact ⟨some a, cap, rfl⟩
/-- The int at a place. -/
theorem SlI.cells {w : World} {A : Option Addr} {n cap : Nat} {l : List Int} (h : SlI w (.slice A n cap) l) {k : Nat} (hk : k < l.length) :
    ∃ b o x, A = some ⟨b, o, none⟩ ∧ n = l.length ∧ b < w.heap.size ∧ l[k]? = some x ∧ w.cell? ⟨b, o + k, none⟩ = some (.int .i64 x) := by
  rcases h with ⟨_, rfl⟩ | ⟨a, cap', e, h⟩
  · exact absurd hk (Nat.not_lt_zero k)
  · injection e with e1 e2 _
    obtain ⟨h1, h2, h3⟩ := h (fun e => by subst e; exact absurd hk (Nat.not_lt_zero k))
    obtain ⟨b, o, s⟩ := a
    obtain rfl : s = none := h1
    exact ⟨b, o, _, e1, e2, h2, List.getElem?_eq_getElem hk, h3 k _ (List.getElem?_eq_getElem hk)⟩
/-- The address of a slice with elements. -/
theorem SlI.addr {w : World} {A : Option Addr} {n cap : Nat} {l : List Int} (h : SlI w (.slice A n cap) l) (hl : 0 < l.length) : ∃ b o, A = some ⟨b, o, none⟩ ∧ b < w.heap.size ∧ IAt w b o l := by
  rcases h with ⟨_, rfl⟩ | ⟨a, cap', e, h⟩
  · exact absurd hl (Nat.not_lt_zero _)
  · injection e with e1 e2 _
    obtain ⟨h1, h2, h3⟩ := h (fun e => by subst e; exact absurd hl (Nat.not_lt_zero _))
    obtain ⟨b, o, s⟩ := a
    obtain rfl : s = none := h1
    exact ⟨b, o, e1, h2, h3⟩
/-- A row of ints of a call's own. -/
def OwnI (T : TypeId) (w : World) (B : Nat) (v : Value) (l : List Int) : Prop := w.ownsRow B T 1 v l.length (l.map valI)
theorem OwnI.at_ {T : TypeId} {w : World} {B g n cap : Nat} {l : List Int} (h : OwnI T w B (.slice (some ⟨g, 0, none⟩) n cap) l) (hn : n = l.length) : IAt w g 0 l := fun i x hi => by
  subst hn
  have hl : i < l.length := (List.getElem?_eq_some_iff.1 hi).1
  have := World.ownsRow.cellAt h i (by omega)
  rw [Nat.zero_add, this, List.getElem?_map, hi]
  rfl
theorem OwnI.form {T : TypeId} {w : World} {B : Nat} {v : Value} {l : List Int} (h : OwnI T w B v l) : (v = .slice none 0 0 ∧ l = []) ∨ ∃ g cap, v = .slice (some ⟨g, 0, none⟩) l.length cap ∧ B ≤ g ∧ g < w.heap.size ∧ IAt w g 0 l := by
  have h' := h
  rcases h.2 with ⟨h1, h2⟩ | ⟨g, cap, cur, rfl, hB, hg, _⟩
  · exact .inl ⟨h1, List.eq_nil_of_length_eq_zero h2⟩
  · exact .inr ⟨g, cap, rfl, hB, (Array.getElem?_eq_some_iff.1 hg).1, OwnI.at_ h' rfl⟩
theorem OwnI.sl {T : TypeId} {w : World} {B : Nat} {v : Value} {l : List Int} (h : OwnI T w B v l) : SlI w v l := by
  rcases h.form with h | ⟨g, cap, rfl, _, hg, hr⟩
  · exact .inl h
  · exact .row hr hg
theorem OwnI.store {T : TypeId} {w : World} {B g n cap : Nat} {l : List Int} (h : OwnI T w B (.slice (some ⟨g, 0, none⟩) n cap) l) (hn : n = l.length) {k : Nat} (x : Int) :
    OwnI T (w.setCell ⟨g, k, none⟩ (.int .i64 x)) B (.slice (some ⟨g, 0, none⟩) n cap) (l.set k x) := by
  subst hn
  have h1 := (World.ownsRow.stored h k (.int .i64 x)).1
  unfold OwnI
  rw [List.length_set, List.map_set]
  exact h1
theorem OwnI.alloc {T : TypeId} {w : World} {B : Nat} {v : Value} {l : List Int} (h : OwnI T w B v l) (o : Obj) : OwnI T (w.alloc o) B v l := World.ownsRow.alloc h o
theorem OwnI.keep {T : TypeId} {w w' : World} {B : Nat} {v : Value} {l : List Int} (h : OwnI T w B v l) (hb : Below w.heap.size w w') : OwnI T w' B v l := by
  refine ⟨h.1, ?_⟩
  rcases h.2 with h1 | ⟨g, cap, cur, rfl, hB, hg, r⟩
  · exact .inl h1
  · refine .inr ⟨g, cap, cur, rfl, hB, ?_, r⟩
    rw [hb.block g (Array.getElem?_eq_some_iff.1 hg).1]
    exact hg
end Go.Proofs
