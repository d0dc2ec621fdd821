import Derived.Test.YtdiddniddohhgaaGreatDoorRow
import Derived.Laws.OwnMore
import Derived.Lib.Hide
import Derived.Maps.AppendAt
section
/- Slices of ints: what a slice value reads as. -/
namespace Go.Proofs
open Go.RowKit
set_option maxRecDepth 1000000
def valI (x : Int) : Value := .int .i64 x
def IAt (w : World) (b o : Nat) (l : List Int) : Prop := ∀ i x, l[i]? = some x → w.cell? ⟨b, o + i, none⟩ = some (.int .i64 x)
/-- A slice value that reads as a list of ints: nil, empty or not. -/
def SlI (w : World) (v : Value) (l : List Int) : Prop :=
  (v = .slice none 0 0 ∧ l = []) ∨ ∃ (a : Addr) (cap : Nat), v = .slice (some a) l.length cap ∧ (l ≠ [] → a.spot = none ∧ a.block < w.heap.size ∧ IAt w a.block a.off l)
theorem IAt.below {w w' : World} {b o : Nat} {l : List Int} (h : IAt w b o l) {B : Nat} (hb : Below B w w') (hB : b < B) : IAt w' b o l := fun i x hi => (hb.cell (p := ⟨b, _, none⟩) hB).trans (h i x hi)
theorem SlI.below {w w' : World} {v : Value} {l : List Int} (h : SlI w v l) (hb : Below w.heap.size w w') : SlI w' v l := by
  rcases h with h | ⟨a, cap, rfl, h⟩
  · exact .inl h
  · refine .inr ⟨a, cap, rfl, fun hl => ?_⟩
    obtain ⟨h1, h2, h3⟩ := h hl
    exact ⟨h1, Nat.lt_of_lt_of_le h2 hb.size, h3.below hb h2⟩
theorem SlI.row {w : World} {b o cap : Nat} {l : List Int} (h : IAt w b o l) (hb : b < w.heap.size) : SlI w (.slice (some ⟨b, o, none⟩) l.length cap) l := .inr ⟨_, cap, rfl, fun _ => ⟨rfl, hb, h⟩⟩
theorem SlI.form {w : World} {v : Value} {l : List Int} (h : SlI w v l) : ∃ (A : Option Addr) (cap : Nat), v = .slice A l.length cap := by
  rcases h with ⟨rfl, rfl⟩ | ⟨a, cap, rfl, _⟩
  · exact ⟨none, 0, rfl⟩
  · exact ⟨some a, cap, rfl⟩
/-- The int at a place. -/
theorem SlI.cells {w : World} {A : Option Addr} {n cap : Nat} {l : List Int} (h : SlI w (.slice A n cap) l) {k : Nat} (hk : k < l.length) :
    ∃ b o x, A = some ⟨b, o, none⟩ ∧ n = l.length ∧ b < w.heap.size ∧ l[k]? = some x ∧ w.cell? ⟨b, o + k, none⟩ = some (.int .i64 x) := by
  rcases h with ⟨_, rfl⟩ | ⟨a, cap', e, h⟩
  · exact absurd hk (Nat.not_lt_zero k)
  · injection e with e1 e2 _
    obtain ⟨h1, h2, h3⟩ := h (fun e => by subst e; exact absurd hk (Nat.not_lt_zero k))
    obtain ⟨b, o, s⟩ := a
    obtain rfl : s = none := h1
    exact ⟨b, o, _, e1, e2, h2, List.getElem?_eq_getElem hk, h3 k _ (List.getElem?_eq_getElem hk)⟩
/-- The address of a slice with elements. -/
theorem SlI.addr {w : World} {A : Option Addr} {n cap : Nat} {l : List Int} (h : SlI w (.slice A n cap) l) (hl : 0 < l.length) : ∃ b o, A = some ⟨b, o, none⟩ ∧ b < w.heap.size ∧ IAt w b o l := by
  rcases h with ⟨_, rfl⟩ | ⟨a, cap', e, h⟩
  · exact absurd hl (Nat.not_lt_zero _)
  · injection e with e1 e2 _
    obtain ⟨h1, h2, h3⟩ := h (fun e => by subst e; exact absurd hl (Nat.not_lt_zero _))
    obtain ⟨b, o, s⟩ := a
    obtain rfl : s = none := h1
    exact ⟨b, o, e1, h2, h3⟩
/-- A row of ints of a call's own. -/
def OwnI (T : TypeId) (w : World) (B : Nat) (v : Value) (l : List Int) : Prop := w.ownsRow B T 1 v l.length (l.map valI)
theorem OwnI.at_ {T : TypeId} {w : World} {B g n cap : Nat} {l : List Int} (h : OwnI T w B (.slice (some ⟨g, 0, none⟩) n cap) l) (hn : n = l.length) : IAt w g 0 l := fun i x hi => by
  subst hn
  have hl : i < l.length := (List.getElem?_eq_some_iff.1 hi).1
  have := World.ownsRow.cellAt h i (by omega)
  rw [Nat.zero_add, this, List.getElem?_map, hi]
  rfl
theorem OwnI.form {T : TypeId} {w : World} {B : Nat} {v : Value} {l : List Int} (h : OwnI T w B v l) : (v = .slice none 0 0 ∧ l = []) ∨ ∃ g cap, v = .slice (some ⟨g, 0, none⟩) l.length cap ∧ B ≤ g ∧ g < w.heap.size ∧ IAt w g 0 l := by
  have h' := h
  rcases h.2 with ⟨h1, h2⟩ | ⟨g, cap, cur, rfl, hB, hg, _⟩
  · exact .inl ⟨h1, List.eq_nil_of_length_eq_zero h2⟩
  · exact .inr ⟨g, cap, rfl, hB, (Array.getElem?_eq_some_iff.1 hg).1, OwnI.at_ h' rfl⟩
theorem OwnI.sl {T : TypeId} {w : World} {B : Nat} {v : Value} {l : List Int} (h : OwnI T w B v l) : SlI w v l := by
  rcases h.form with h | ⟨g, cap, rfl, _, hg, hr⟩
  · exact .inl h
  · exact .row hr hg
theorem OwnI.store {T : TypeId} {w : World} {B g n cap : Nat} {l : List Int} (h : OwnI T w B (.slice (some ⟨g, 0, none⟩) n cap) l) (hn : n = l.length) {k : Nat} (x : Int) :
    OwnI T (w.setCell ⟨g, k, none⟩ (.int .i64 x)) B (.slice (some ⟨g, 0, none⟩) n cap) (l.set k x) := by
  subst hn
  have h1 := (World.ownsRow.stored h k (.int .i64 x)).1
  unfold OwnI
  rw [List.length_set, List.map_set]
  exact h1
theorem OwnI.alloc {T : TypeId} {w : World} {B : Nat} {v : Value} {l : List Int} (h : OwnI T w B v l) (o : Obj) : OwnI T (w.alloc o) B v l := World.ownsRow.alloc h o
theorem OwnI.keep {T : TypeId} {w w' : World} {B : Nat} {v : Value} {l : List Int} (h : OwnI T w B v l) (hb : Below w.heap.size w w') : OwnI T w' B v l := by
  refine ⟨h.1, ?_⟩
  rcases h.2 with h1 | ⟨g, cap, cur, rfl, hB, hg, r⟩
  · exact .inl h1
  · refine .inr ⟨g, cap, cur, rfl, hB, ?_, r⟩
    rw [hb.block g (Array.getElem?_eq_some_iff.1 hg).1]
    exact hg
end Go.Proofs
end

section
/- Shades: tabs and colours, and rows of them. -/
namespace Go.Proofs
open Go.RowKit
set_option maxHeartbeats 4000000
set_option maxRecDepth 1000000
abbrev TabT := ByteArray × Cel
def colV (c : Cel) : Value := .agg #[.int .i64 c.1, .int .i64 c.2.1, .int .i64 c.2.2]
def tabV (t : TabT) : Value := .agg #[.string t.1, .int .i64 t.2.1, .int .i64 t.2.2.1, .int .i64 t.2.2.2]
def encT (t : TabT) : List Value := [.string t.1, .int .i64 t.2.1, .int .i64 t.2.2.1, .int .i64 t.2.2.2]
def flatT (l : List TabT) : List Value := l.flatMap encT
/-- The tabs of a list stand in a block from a place on. -/
def TabAt (w : World) (b o : Nat) (l : List TabT) : Prop := ∀ i t, l[i]? = some t → w.cell? ⟨b, o + i * 4, none⟩ = some (.string t.1) ∧ w.cell? ⟨b, o + i * 4 + 1, none⟩ = some (.int .i64 t.2.1) ∧ w.cell? ⟨b, o + i * 4 + 2, none⟩ = some (.int .i64 t.2.2.1) ∧ w.cell? ⟨b, o + i * 4 + 3, none⟩ = some (.int .i64 t.2.2.2)
theorem TabAt.below {w w' : World} {b o : Nat} {l : List TabT} (h : TabAt w b o l) {B : Nat} (hb : Below B w w') (hB : b < B) : TabAt w' b o l := fun i c hi => by
  obtain ⟨r0, r1, r2, r3⟩ := h i c hi
  exact ⟨(hb.cell (p := ⟨b, _, none⟩) hB).trans r0, (hb.cell (p := ⟨b, _, none⟩) hB).trans r1, (hb.cell (p := ⟨b, _, none⟩) hB).trans r2, (hb.cell (p := ⟨b, _, none⟩) hB).trans r3⟩
/-- A slice value that reads as a list of tabs: nil, empty or not. -/
def SlT (w : World) (v : Value) (l : List TabT) : Prop :=
  (v = .slice none 0 0 ∧ l = []) ∨ ∃ (a : Addr) (cap : Nat), v = .slice (some a) l.length cap ∧ (l ≠ [] → a.spot = none ∧ a.block < w.heap.size ∧ TabAt w a.block a.off l)
theorem SlT.below {w w' : World} {v : Value} {l : List TabT} (h : SlT w v l) (hb : Below w.heap.size w w') : SlT w' v l := by
  rcases h with h | ⟨a, cap, rfl, h⟩
  · exact .inl h
  · refine .inr ⟨a, cap, rfl, fun hl => ?_⟩
    obtain ⟨h1, h2, h3⟩ := h hl
    exact ⟨h1, Nat.lt_of_lt_of_le h2 hb.size, h3.below hb h2⟩
theorem SlT.row {w : World} {b o cap : Nat} {l : List TabT} (h : TabAt w b o l) (hb : b < w.heap.size) : SlT w (.slice (some ⟨b, o, none⟩) l.length cap) l := .inr ⟨_, cap, rfl, fun _ => ⟨rfl, hb, h⟩⟩
theorem SlT.form {w : World} {v : Value} {l : List TabT} (h : SlT w v l) : ∃ (A : Option Addr) (cap : Nat), v = .slice A l.length cap := by
  rcases h with ⟨rfl, rfl⟩ | ⟨a, cap, rfl, _⟩
  · exact ⟨none, 0, rfl⟩
  · exact ⟨some a, cap, rfl⟩
theorem SlT.cells {w : World} {A : Option Addr} {n cap : Nat} {l : List TabT} (h : SlT w (.slice A n cap) l) {k : Nat} (hk : k < l.length) :
    ∃ b o s x y z, A = some ⟨b, o, none⟩ ∧ n = l.length ∧ b < w.heap.size ∧ l[k]? = some (s, x, y, z) ∧ w.cell? ⟨b, o + k * 4, none⟩ = some (.string s) ∧ w.cell? ⟨b, o + k * 4 + 1, none⟩ = some (.int .i64 x) ∧ w.cell? ⟨b, o + k * 4 + 2, none⟩ = some (.int .i64 y) ∧ w.cell? ⟨b, o + k * 4 + 3, none⟩ = some (.int .i64 z) := by
  rcases h with ⟨_, rfl⟩ | ⟨a, cap', e, h⟩
  · exact absurd hk (Nat.not_lt_zero k)
  · injection e with e1 e2 _
    obtain ⟨b, o, s⟩ := a
    obtain ⟨h1, h2, h3⟩ := h (fun e => by subst e; exact absurd hk (Nat.not_lt_zero k))
    obtain rfl : s = none := h1
    obtain ⟨r0, r1, r2, r3⟩ := h3 k _ (List.getElem?_eq_getElem hk)
    exact ⟨b, o, _, _, _, _, e1, e2, h2, List.getElem?_eq_getElem hk, r0, r1, r2, r3⟩
/-- A row of tabs of a call's own. -/
def OwnT (T : TypeId) (w : World) (B : Nat) (v : Value) (l : List TabT) : Prop := w.ownsRow B T 4 v l.length (flatT l)
theorem OwnT.nil (T : TypeId) (w : World) (B : Nat) : OwnT T w B (.slice none 0 0) [] := World.ownsRow_nil w B _ _
theorem flatT_cons (t : TabT) (l : List TabT) : flatT (t :: l) = .string t.1 :: .int .i64 t.2.1 :: .int .i64 t.2.2.1 :: .int .i64 t.2.2.2 :: flatT l := by simp [flatT, encT]
theorem flatT_append (l m : List TabT) : flatT (l ++ m) = flatT l ++ flatT m := by simp [flatT]
theorem flatT_len : ∀ l : List TabT, (flatT l).length = l.length * 4
  | [] => rfl
  | x :: l => by rw [flatT_cons]; simp [flatT_len l]; omega
theorem flatT_get : ∀ {l : List TabT} {i : Nat} {t : TabT}, l[i]? = some t → (flatT l)[i * 4]? = some (.string t.1) ∧ (flatT l)[i * 4 + 1]? = some (.int .i64 t.2.1) ∧ (flatT l)[i * 4 + 2]? = some (.int .i64 t.2.2.1) ∧ (flatT l)[i * 4 + 3]? = some (.int .i64 t.2.2.2)
  | [], i, t, h => by simp at h
  | x :: l, 0, t, h => by
    obtain rfl : x = t := by simpa using h
    simp [flatT_cons]
  | x :: l, i + 1, t, h => by
    have ih := flatT_get (l := l) (i := i) (t := t) (by simpa using h)
    rw [flatT_cons]
    rw [show (i + 1) * 4 = i * 4 + 1 + 1 + 1 + 1 by omega, show i * 4 + 1 + 1 + 1 + 1 + 1 = (i * 4 + 1) + 1 + 1 + 1 + 1 by omega, show i * 4 + 1 + 1 + 1 + 1 + 2 = (i * 4 + 2) + 1 + 1 + 1 + 1 by omega, show i * 4 + 1 + 1 + 1 + 1 + 3 = (i * 4 + 3) + 1 + 1 + 1 + 1 by omega]
    simpa only [List.getElem?_cons_succ] using ih
theorem flatT_one {l : List TabT} : ∀ u ∈ flatT l, u.oneCell' = true := fun u hu => by
  obtain ⟨t, _, ht⟩ := List.mem_flatMap.1 hu
  simp only [encT, List.mem_cons, List.not_mem_nil, or_false] at ht
  rcases ht with rfl | rfl | rfl | rfl <;> rfl
theorem OwnT.at_ {T : TypeId} {w : World} {B g n cap : Nat} {l : List TabT} (h : OwnT T w B (.slice (some ⟨g, 0, none⟩) n cap) l) (hn : n = l.length) : TabAt w g 0 l := fun i t hi => by
  subst hn
  have hl : i < l.length := (List.getElem?_eq_some_iff.1 hi).1
  obtain ⟨q0, q1, q2, q3⟩ := flatT_get hi
  have key : ∀ j u, j < l.length * 4 → (flatT l)[j]? = some u → w.cell? ⟨g, 0 + j, none⟩ = some u := fun j u hj e => by
    have := World.ownsRow.cellAt h j (by omega)
    rw [Nat.zero_add, this, e]
  refine ⟨key _ _ (by omega) q0, ?_, ?_, ?_⟩
  · rw [Nat.add_assoc]; exact key _ _ (by omega) q1
  · rw [Nat.add_assoc]; exact key _ _ (by omega) q2
  · rw [Nat.add_assoc]; exact key _ _ (by omega) q3
theorem OwnT.form {T : TypeId} {w : World} {B : Nat} {v : Value} {l : List TabT} (h : OwnT T w B v l) : (v = .slice none 0 0 ∧ l = []) ∨ ∃ g cap, v = .slice (some ⟨g, 0, none⟩) l.length cap ∧ B ≤ g ∧ g < w.heap.size ∧ TabAt w g 0 l := by
  have h' := h
  rcases h.2 with ⟨h1, h2⟩ | ⟨g, cap, cur, rfl, hB, hg, _⟩
  · exact .inl ⟨h1, List.eq_nil_of_length_eq_zero h2⟩
  · exact .inr ⟨g, cap, rfl, hB, (Array.getElem?_eq_some_iff.1 hg).1, OwnT.at_ h' rfl⟩
theorem OwnT.sl {T : TypeId} {w : World} {B : Nat} {v : Value} {l : List TabT} (h : OwnT T w B v l) : SlT w v l := by
  rcases h.form with h | ⟨g, cap, rfl, _, hg, hr⟩
  · exact .inl h
  · exact .row hr hg
theorem OwnT.alloc {T : TypeId} {w : World} {B : Nat} {v : Value} {l : List TabT} (h : OwnT T w B v l) (o : Obj) : OwnT T (w.alloc o) B v l := World.ownsRow.alloc h o
theorem OwnT.keepB {T : TypeId} {w w' : World} {B : Nat} {v : Value} {l : List TabT} (h : OwnT T w B v l) (hb : ∀ g, v.ownBlock = some g → w'.heap[g]? = w.heap[g]?) : OwnT T w' B v l := by
  refine ⟨h.1, ?_⟩
  rcases h.2 with h1 | ⟨g, cap, cur, rfl, hB, hg, r⟩
  · exact .inl h1
  · exact .inr ⟨g, cap, cur, rfl, hB, (hb g rfl).trans hg, r⟩
theorem OwnT.lt {T : TypeId} {w : World} {B : Nat} {v : Value} {l : List TabT} (h : OwnT T w B v l) : ∀ g, v.ownBlock = some g → B ≤ g ∧ g < w.heap.size := fun g e => by
  rcases h.2 with ⟨h1, _⟩ | ⟨g', cap, cur, rfl, hB, hg, r⟩
  · rw [h1] at e; cases e
  · obtain rfl : g' = g := by simpa [Value.ownBlock] using e
    exact ⟨hB, (Array.getElem?_eq_some_iff.1 hg).1⟩
theorem OwnT.keep {T : TypeId} {w w' : World} {B : Nat} {v : Value} {l : List TabT} (h : OwnT T w B v l) (hb : Below w.heap.size w w') : OwnT T w' B v l := h.keepB fun g e => hb.block g (h.lt g e).2
theorem OwnT.lower {T : TypeId} {w : World} {B B' : Nat} {v : Value} {l : List TabT} (h : OwnT T w B' v l) (hle : B ≤ B') : OwnT T w B v l := ⟨h.1, h.2.imp id fun ⟨g, cap, cur, h1, h2, r⟩ => ⟨g, cap, cur, h1, Nat.le_trans hle h2, r⟩⟩
end Go.Proofs
end
