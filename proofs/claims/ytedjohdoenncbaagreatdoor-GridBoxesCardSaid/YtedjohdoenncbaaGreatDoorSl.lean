/- Slices of cells: what a slice value reads as, and rows of a call's own. -/
import Derived.Test.YtedjohdoenncbaaGreatDoorCells
import Derived.Laws.OwnMore
import Derived.Lib.Hide
namespace Go.Proofs
open Go.RowKit
set_option maxRecDepth 1000000
/-- A slice value that reads as a list of cells: nil, empty or not. -/
def Sl (w : World) (v : Value) (l : List Cel) : Prop :=
  (v = .slice none 0 0 ∧ l = []) ∨ ∃ (a : Addr) (cap : Nat), v = .slice (some a) l.length cap ∧ (l ≠ [] → a.spot = none ∧ a.block < w.heap.size ∧ RowAt w a.block a.off l)
theorem RowAt.below {w w' : World} {b o : Nat} {l : List Cel} (h : RowAt w b o l) {B : Nat} (hb : Below B w w') (hB : b < B) : RowAt w' b o l := fun i c hi => by
  obtain ⟨r0, r1, r2⟩ := h i c hi
  exact ⟨(hb.cell (p := ⟨b, _, none⟩) hB).trans r0, (hb.cell (p := ⟨b, _, none⟩) hB).trans r1, (hb.cell (p := ⟨b, _, none⟩) hB).trans r2⟩
theorem Sl.below {w w' : World} {v : Value} {l : List Cel} (h : Sl w v l) (hb : Below w.heap.size w w') : Sl w' v l := by
  rcases h with h | ⟨a, cap, rfl, h⟩
  · exact .inl h
  · refine .inr ⟨a, cap, rfl, fun hl => ?_⟩
    obtain ⟨h1, h2, h3⟩ := h hl
    exact ⟨h1, Nat.lt_of_lt_of_le h2 hb.size, h3.below hb h2⟩
theorem Sl.row {w : World} {b o cap : Nat} {l : List Cel} (h : RowAt w b o l) (hb : b < w.heap.size) : Sl w (.slice (some ⟨b, o, none⟩) l.length cap) l := .inr ⟨_, cap, rfl, fun _ => ⟨rfl, hb, h⟩⟩
/-- The cell at a place. -/
theorem Sl.at_ {w : World} {a : Addr} {l : List Cel} (h : l ≠ [] → a.spot = none ∧ a.block < w.heap.size ∧ RowAt w a.block a.off l) {k : Nat} (hk : k < l.length) :
    ∃ b o x y z, a = ⟨b, o, none⟩ ∧ b < w.heap.size ∧ l[k]? = some (x, y, z) ∧ w.cell? ⟨b, o + k * 3, none⟩ = some (.int .i64 x) ∧ w.cell? ⟨b, o + k * 3 + 1, none⟩ = some (.int .i64 y) ∧ w.cell? ⟨b, o + k * 3 + 2, none⟩ = some (.int .i64 z) := by
  obtain ⟨b, o, s⟩ := a
  obtain ⟨h1, h2, h3⟩ := h (fun e => by subst e; exact absurd hk (Nat.not_lt_zero k))
  obtain rfl : s = none := h1
  obtain ⟨r0, r1, r2⟩ := h3 k _ (List.getElem?_eq_getElem hk)
  exact ⟨b, o, _, _, _, rfl, h2, List.getElem?_eq_getElem hk, r0, r1, r2⟩
theorem Sl.form {w : World} {v : Value} {l : List Cel} (h : Sl w v l) : ∃ (A : Option Addr) (cap : Nat), v = .slice A l.length cap := by
  rcases h with ⟨rfl, rfl⟩ | ⟨a, cap, rfl, _⟩
  · exact ⟨none, 0, rfl⟩
  · exact ⟨some a, cap, rfl⟩
theorem Sl.cells {w : World} {A : Option Addr} {n cap : Nat} {l : List Cel} (h : Sl w (.slice A n cap) l) {k : Nat} (hk : k < l.length) :
    ∃ b o x y z, A = some ⟨b, o, none⟩ ∧ n = l.length ∧ b < w.heap.size ∧ l[k]? = some (x, y, z) ∧ w.cell? ⟨b, o + k * 3, none⟩ = some (.int .i64 x) ∧ w.cell? ⟨b, o + k * 3 + 1, none⟩ = some (.int .i64 y) ∧ w.cell? ⟨b, o + k * 3 + 2, none⟩ = some (.int .i64 z) := by
  rcases h with ⟨_, rfl⟩ | ⟨a, cap', e, h⟩
  · exact absurd hk (Nat.not_lt_zero k)
  · injection e with e1 e2 _
    obtain ⟨b, o, x, y, z, rfl, r⟩ := Sl.at_ h hk
    exact ⟨b, o, x, y, z, e1, e2, r⟩
/-- A row of a call's own. -/
def Own (w : World) (B : Nat) (v : Value) (l : List Cel) : Prop := w.ownsRow B 38 3 v l.length (flatC l)
theorem Own.nil (w : World) (B : Nat) : Own w B (.slice none 0 0) [] := World.ownsRow_nil w B _ _
theorem Own.form {w : World} {B : Nat} {v : Value} {l : List Cel} (h : Own w B v l) : (v = .slice none 0 0 ∧ l = []) ∨ ∃ g cap, v = .slice (some ⟨g, 0, none⟩) l.length cap ∧ B ≤ g ∧ g < w.heap.size ∧ RowAt w g 0 l := by
  have h' := h
  rcases h.2 with ⟨h1, h2⟩ | ⟨g, cap, cur, rfl, hB, hg, _⟩
  · exact .inl ⟨h1, List.eq_nil_of_length_eq_zero h2⟩
  · exact .inr ⟨g, cap, rfl, hB, (Array.getElem?_eq_some_iff.1 hg).1, owns_row h'⟩
theorem Own.sl {w : World} {B : Nat} {v : Value} {l : List Cel} (h : Own w B v l) : Sl w v l := by
  rcases h.form with h | ⟨g, cap, rfl, _, hg, hr⟩
  · exact .inl h
  · exact .row hr hg
theorem flatC_cons (c : Cel) (l : List Cel) : flatC (c :: l) = .int .i64 c.1 :: .int .i64 c.2.1 :: .int .i64 c.2.2 :: flatC l := by simp [flatC, encC]
theorem flatC_set (x y z : Int) : ∀ (l : List Cel) (k : Nat), k < l.length → (((flatC l).set (k * 3) (.int .i64 x)).set (k * 3 + 1) (.int .i64 y)).set (k * 3 + 2) (.int .i64 z) = flatC (l.set k (x, y, z))
  | [], k, h => absurd h (Nat.not_lt_zero k)
  | c :: l, 0, _ => by simp [flatC_cons]
  | c :: l, k + 1, h => by
    have ih := flatC_set x y z l k (Nat.lt_of_succ_lt_succ h)
    rw [List.set_cons_succ, flatC_cons, flatC_cons, ← ih]
    rw [show (k + 1) * 3 = k * 3 + 1 + 1 + 1 by omega, show k * 3 + 1 + 1 + 1 + 1 = (k * 3 + 1) + 1 + 1 + 1 by omega, show k * 3 + 1 + 1 + 1 + 2 = (k * 3 + 2) + 1 + 1 + 1 by omega]
    simp only [List.set_cons_succ]
theorem Own.store {w : World} {B g n cap : Nat} {l : List Cel} (h : Own w B (.slice (some ⟨g, 0, none⟩) n cap) l) (hn : n = l.length) {k : Nat} (hk : k < n) (x y z : Int) :
    Own (((w.setCell ⟨g, k * 3, none⟩ (.int .i64 x)).setCell ⟨g, k * 3 + 1, none⟩ (.int .i64 y)).setCell ⟨g, k * 3 + 2, none⟩ (.int .i64 z)) B (.slice (some ⟨g, 0, none⟩) n cap) (l.set k (x, y, z)) := by
  subst hn
  have h1 := ((h.stored (k * 3) (.int .i64 x)).1.stored (k * 3 + 1) (.int .i64 y)).1.stored (k * 3 + 2) (.int .i64 z)
  rw [flatC_set x y z l k hk] at h1
  unfold Own
  rw [List.length_set]
  exact h1.1
theorem Own.alloc {w : World} {B : Nat} {v : Value} {l : List Cel} (h : Own w B v l) (o : Obj) : Own (w.alloc o) B v l := World.ownsRow.alloc h o
theorem Own.keep {w w' : World} {B : Nat} {v : Value} {l : List Cel} (h : Own w B v l) (hb : Below w.heap.size w w') : Own w' B v l := by
  refine ⟨h.1, ?_⟩
  rcases h.2 with h1 | ⟨g, cap, cur, rfl, hB, hg, r⟩
  · exact .inl h1
  · refine .inr ⟨g, cap, cur, rfl, hB, ?_, r⟩
    rw [hb.block g (Array.getElem?_eq_some_iff.1 hg).1]
    exact hg
theorem flatC_append (l m : List Cel) : flatC (l ++ m) = flatC l ++ flatC m := by simp [flatC]
theorem Own.len {w : World} {B : Nat} {v : Value} {l : List Cel} (h : Own w B v l) : l.length ≤ maxLen := by
  rcases h.2 with ⟨_, h2⟩ | ⟨_, _, _, _, _, _, h1, h2, _⟩
  · omega
  · omega
end Go.Proofs
