/- Slices of structs, told by what an element's cells are. -/
import Derived.Test.YtfdhppdkgfioaaaGreatDoorRow
import Derived.Laws.OwnMore
import Derived.Lib.Hide
import Derived.Maps.AppendAt
namespace Go.Proofs
open Go.RowKit
set_option maxHeartbeats 4000000
set_option maxRecDepth 1000000
section
variable {α : Type} (enc : α → List Value) (s : Nat)
def flatF (l : List α) : List Value := l.flatMap enc
def FlatAt (w : World) (b o : Nat) (cs : List Value) : Prop := ∀ j u, cs[j]? = some u → w.cell? ⟨b, o + j, none⟩ = some u
/-- A slice value that reads as a list: nil, empty or not. -/
def SlF (w : World) (v : Value) (l : List α) : Prop :=
  (v = .slice none 0 0 ∧ l = []) ∨ ∃ (a : Addr) (cap : Nat), v = .slice (some a) l.length cap ∧ (l ≠ [] → a.spot = none ∧ a.block < w.heap.size ∧ FlatAt w a.block a.off (flatF enc l))
/-- A row of a call's own. -/
def OwnF (T : TypeId) (w : World) (B : Nat) (v : Value) (l : List α) : Prop := w.ownsRow B T s v l.length (flatF enc l)
end
section
variable {α : Type} {enc : α → List Value} {s : Nat}
theorem flatF_append (l m : List α) : flatF enc (l ++ m) = flatF enc l ++ flatF enc m := by simp [flatF]
theorem flatF_len (hs : ∀ x, (enc x).length = s) : ∀ l : List α, (flatF enc l).length = l.length * s
  | [] => by simp [flatF]
  | x :: l => by
    have h := flatF_len hs l
    have e : flatF enc (x :: l) = enc x ++ flatF enc l := by simp [flatF]
    rw [e, List.length_append, hs, h, List.length_cons, Nat.succ_mul]
    omega
theorem flatF_get (hs : ∀ x, (enc x).length = s) : ∀ {l : List α} {i : Nat} {x : α} {j : Nat}, l[i]? = some x → j < s → (flatF enc l)[i * s + j]? = (enc x)[j]?
  | [], i, x, j, h, _ => by simp at h
  | y :: l, 0, x, j, h, hj => by
    obtain rfl : y = x := by simpa using h
    have e : flatF enc (y :: l) = enc y ++ flatF enc l := by simp [flatF]
    rw [e, Nat.zero_mul, Nat.zero_add, List.getElem?_append_left (by rw [hs]; exact hj)]
  | y :: l, i + 1, x, j, h, hj => by
    have ih := flatF_get hs (l := l) (i := i) (x := x) (j := j) (by simpa using h) hj
    have e : flatF enc (y :: l) = enc y ++ flatF enc l := by simp [flatF]
    rw [e, List.getElem?_append_right (by rw [hs, Nat.succ_mul]; omega), hs, show (i + 1) * s + j - s = i * s + j by rw [Nat.succ_mul]; omega]
    exact ih
theorem FlatAt.below {w w' : World} {b o : Nat} {cs : List Value} (h : FlatAt w b o cs) {B : Nat} (hb : Below B w w') (hB : b < B) : FlatAt w' b o cs := fun j u hj => (hb.cell (p := ⟨b, _, none⟩) hB).trans (h j u hj)
theorem SlF.below {w w' : World} {v : Value} {l : List α} (h : SlF enc w v l) (hb : Below w.heap.size w w') : SlF enc w' v l := by
  rcases h with h | ⟨a, cap, rfl, h⟩
  · exact .inl h
  · refine .inr ⟨a, cap, rfl, fun hl => ?_⟩
    obtain ⟨h1, h2, h3⟩ := h hl
    exact ⟨h1, Nat.lt_of_lt_of_le h2 hb.size, h3.below hb h2⟩
theorem SlF.form {w : World} {v : Value} {l : List α} (h : SlF enc w v l) : ∃ (A : Option Addr) (cap : Nat), v = .slice A l.length cap := by
  rcases h with ⟨rfl, rfl⟩ | ⟨a, cap, rfl, _⟩
  · exact ⟨none, 0, rfl⟩
  · exact ⟨some a, cap, rfl⟩
theorem SlF.cells {w : World} {A : Option Addr} {n cap : Nat} {l : List α} (hs : ∀ x, (enc x).length = s) (h : SlF enc w (.slice A n cap) l) {k : Nat} {x : α} (hk : l[k]? = some x) :
    ∃ b o, A = some ⟨b, o, none⟩ ∧ n = l.length ∧ b < w.heap.size ∧ ∀ j u, (enc x)[j]? = some u → w.cell? ⟨b, o + k * s + j, none⟩ = some u := by
  rcases h with ⟨_, rfl⟩ | ⟨a, cap', e, h⟩
  · simp at hk
  · injection e with e1 e2 _
    obtain ⟨b, o, sp⟩ := a
    obtain ⟨h1, h2, h3⟩ := h (fun e => by subst e; simp at hk)
    obtain rfl : sp = none := h1
    refine ⟨b, o, e1, e2, h2, fun j u hu => ?_⟩
    have hj : j < s := by rw [← hs x]; exact (List.getElem?_eq_some_iff.1 hu).1
    have := h3 (k * s + j) u (by rw [flatF_get hs hk hj]; exact hu)
    rw [Nat.add_assoc]
    exact this
theorem OwnF.nil (T : TypeId) (w : World) (B : Nat) : OwnF enc s T w B (.slice none 0 0) [] := World.ownsRow_nil w B _ _
theorem OwnF.at_ {T : TypeId} {w : World} {B g n cap : Nat} {l : List α} (hs : ∀ x, (enc x).length = s) (h : OwnF enc s T w B (.slice (some ⟨g, 0, none⟩) n cap) l) (hn : n = l.length) : FlatAt w g 0 (flatF enc l) := fun j u hj => by
  subst hn
  have hjl : j < l.length * s := by rw [← flatF_len hs]; exact (List.getElem?_eq_some_iff.1 hj).1
  have := World.ownsRow.cellAt h j hjl
  rw [Nat.zero_add, this, hj]
theorem OwnF.form {T : TypeId} {w : World} {B : Nat} {v : Value} {l : List α} (hs : ∀ x, (enc x).length = s) (h : OwnF enc s T w B v l) : (v = .slice none 0 0 ∧ l = []) ∨ ∃ g cap, v = .slice (some ⟨g, 0, none⟩) l.length cap ∧ B ≤ g ∧ g < w.heap.size ∧ FlatAt w g 0 (flatF enc l) := by
  have h' := h
  rcases h.2 with ⟨h1, h2⟩ | ⟨g, cap, cur, rfl, hB, hg, _⟩
  · exact .inl ⟨h1, List.eq_nil_of_length_eq_zero h2⟩
  · exact .inr ⟨g, cap, rfl, hB, (Array.getElem?_eq_some_iff.1 hg).1, OwnF.at_ hs h' rfl⟩
theorem OwnF.sl {T : TypeId} {w : World} {B : Nat} {v : Value} {l : List α} (hs : ∀ x, (enc x).length = s) (h : OwnF enc s T w B v l) : SlF enc w v l := by
  rcases h.form hs with h | ⟨g, cap, rfl, _, hg, hr⟩
  · exact .inl h
  · exact .inr ⟨_, cap, rfl, fun _ => ⟨rfl, hg, hr⟩⟩
theorem OwnF.alloc {T : TypeId} {w : World} {B : Nat} {v : Value} {l : List α} (h : OwnF enc s T w B v l) (o : Obj) : OwnF enc s T (w.alloc o) B v l := World.ownsRow.alloc h o
theorem OwnF.keepB {T : TypeId} {w w' : World} {B : Nat} {v : Value} {l : List α} (h : OwnF enc s T w B v l) (hb : ∀ g, v.ownBlock = some g → w'.heap[g]? = w.heap[g]?) : OwnF enc s T w' B v l := by
  refine ⟨h.1, ?_⟩
  rcases h.2 with h1 | ⟨g, cap, cur, rfl, hB, hg, r⟩
  · exact .inl h1
  · exact .inr ⟨g, cap, cur, rfl, hB, (hb g rfl).trans hg, r⟩
theorem OwnF.lt {T : TypeId} {w : World} {B : Nat} {v : Value} {l : List α} (h : OwnF enc s T w B v l) : ∀ g, v.ownBlock = some g → B ≤ g ∧ g < w.heap.size := fun g e => by
  rcases h.2 with ⟨h1, _⟩ | ⟨g', cap, cur, rfl, hB, hg, r⟩
  · rw [h1] at e; cases e
  · obtain rfl : g' = g := by simpa [Value.ownBlock] using e
    exact ⟨hB, (Array.getElem?_eq_some_iff.1 hg).1⟩
theorem OwnF.keep {T : TypeId} {w w' : World} {B : Nat} {v : Value} {l : List α} (h : OwnF enc s T w B v l) (hb : Below w.heap.size w w') : OwnF enc s T w' B v l := h.keepB fun g e => hb.block g (h.lt g e).2
theorem OwnF.lower {T : TypeId} {w : World} {B B' : Nat} {v : Value} {l : List α} (h : OwnF enc s T w B' v l) (hle : B ≤ B') : OwnF enc s T w B v l := ⟨h.1, h.2.imp id fun ⟨g, cap, cur, h1, h2, r⟩ => ⟨g, cap, cur, h1, Nat.le_trans hle h2, r⟩⟩
theorem addr_addF (b o j : Nat) : (⟨b, o, none⟩ : Addr).add j = ⟨b, o + j, none⟩ := by
  unfold Addr.add
  split
  · simp_all
  · rfl
/-- append of one element to a row of the call's own. -/
theorem run_append_one {P : Program} (w : World) (ty tS T : TypeId) (B : Nat) (v : Value) (l : List α) (x : α) (hs : ∀ x, (enc x).length = s) (h1 : ∀ x, ∀ u ∈ enc x, u.oneCell' = true) (hown : OwnF enc s T w B v l) (b c : Nat) (bytes : Nat) (z : Value)
    (hS : P.underlying tS = some (.slice T)) (hI : (P.info? T).map (fun i => (i.zero, i.size, i.bytes)) = some (some z, s, bytes)) (hz : z.cells.size = s) (hsz : 0 < s) (hbt : bytes ≤ 1000) (hm : FlatAt w b 0 (enc x)) (hn : l.length ≤ 1048576) (hB : B ≤ w.heap.size) :
    ∃ A2 c2 w', (Builtin.append_ #[tS, tS] ty #[v, .slice (some ⟨b, 0, none⟩) 1 c]).run P w = .ok (.slice A2 (l.length + 1) c2) w' ∧ OwnF enc s T w' B (.slice A2 (l.length + 1) c2) (l ++ [x]) ∧ w.grownBy w' v.ownBlock ∧ ((Value.slice A2 (l.length + 1) c2).ownBlock = v.ownBlock ∨ (Value.slice A2 (l.length + 1) c2).ownBlock = some w.heap.size) := by
  obtain ⟨j0, hj, hy0, hy1, hy2⟩ := info_parts hI
  have hb2 : (l.length + 1) * bytes ≤ 140737488355328 := by
    have : (l.length + 1) * bytes ≤ 1048577 * 1000 := Nat.mul_le_mul (by omega) hbt
    omega
  obtain ⟨v', w', hr, h2, h3, h4, h5⟩ := run_append_own_at (P := P) w B tS ty T j0 z s bytes hS hj hy0 hy1 hy2 hz hsz v l.length (flatF enc l) hown ⟨b, 0, none⟩ 1 c (enc x) (by rw [hs, Nat.one_mul]) (fun j u hu => by rw [addr_addF]; exact hm j u hu) (h1 x) (by unfold maxLen; omega) hb2 hB
  have hO : OwnF enc s T w' B v' (l ++ [x]) := by
    unfold OwnF
    rw [List.length_append, flatF_append]
    have e : flatF enc [x] = enc x := by simp [flatF]
    rw [e]
    exact h2
  obtain ⟨A2, c2, hv⟩ := (hO.sl hs).form
  rw [List.length_append] at hv
  subst hv
  exact ⟨A2, c2, w', hr, hO, h3, h5⟩
end
end Go.Proofs
