import Derived.Test.YtpjmobpmpghpeaaGreatDoorShdAC
import Derived.Test.YtpjmobpmpghpeaaGreatDoorRow
import Derived.Laws.OwnMore
import Derived.Lib.Hide
import Derived.Maps.AppendAt
section
/- ShopNears: distances, nearest tabs and mixes; no world. -/
namespace Go.Proofs
open Go.RowKit Go.MapKept
set_option maxHeartbeats 4000000
set_option maxRecDepth 1000000
theorem term_sym (w x p : Int) : termD w x p = termD w p x := by
  unfold termD
  rw [show x - p = -(p - x) by omega]
  simp only [Int.mul_neg, Int.neg_mul, Int.neg_neg]
theorem dist_sym (ws a b : Cel) : distW ws a b = distW ws b a := by
  unfold distW
  rw [term_sym ws.1, term_sym ws.2.1, term_sym ws.2.2]
theorem term_pos {w x p : Int} (hw : 1 ≤ w) : 0 ≤ termD w x p ∧ (termD w x p = 0 → x = p) := by
  unfold termD
  rw [Int.mul_assoc]
  have h1 : 0 ≤ (x - p) * (x - p) := by
    rcases Int.le_total 0 (x - p) with h | h
    · exact Int.mul_nonneg h h
    · exact Int.mul_nonneg_of_nonpos_of_nonpos h h
  refine ⟨Int.mul_nonneg (by omega) h1, fun h => ?_⟩
  rcases Int.mul_eq_zero.1 h with h | h
  · omega
  · rcases Int.mul_eq_zero.1 h with h | h <;> omega
theorem dist_pos {ws a b : Cel} (hw : ColOk ws 1 100) : 0 ≤ distW ws a b ∧ (distW ws a b = 0 ↔ a = b) := by
  unfold ColOk at hw
  have h1 := term_pos (x := a.1) (p := b.1) hw.1.1
  have h2 := term_pos (x := a.2.1) (p := b.2.1) hw.2.1.1
  have h3 := term_pos (x := a.2.2) (p := b.2.2) hw.2.2.1
  unfold distW
  refine ⟨by omega, fun h => ?_, fun h => ?_⟩
  · have e1 := h1.2 (by omega)
    have e2 := h2.2 (by omega)
    have e3 := h3.2 (by omega)
    obtain ⟨a0, a1, a2⟩ := a
    obtain ⟨b0, b1, b2⟩ := b
    simp only at e1 e2 e3
    subst e1 e2 e3
    rfl
  · subst h
    unfold termD
    simp
/-- What the law asks of the nearest tab to the colour of tab i. -/
theorem near_own {T : List TabT} {ws : Cel} {i j : Nat} {t : TabT} (hw : ColOk ws 1 100) (hi : T[i]? = some t) (h : Least1 (T.map (·.2)) ws t.2 j) : j ≤ i ∧ ∃ s, T[j]? = some (s, t.2) := by
  obtain ⟨c, h1, h2, h3⟩ := h
  have hself : distW ws t.2 t.2 = 0 := ((dist_pos hw).2).2 rfl
  have hc0 : distW ws c t.2 = 0 := by
    have := h2 t.2 (List.mem_map.2 ⟨t, List.mem_of_getElem? hi, rfl⟩)
    have := (dist_pos (a := c) (b := t.2) hw).1
    omega
  have hc : c = t.2 := ((dist_pos hw).2).1 hc0
  subst hc
  refine ⟨?_, ?_⟩
  · apply Classical.byContradiction
    intro hn
    exact h3 i t.2 (by omega) (by rw [List.getElem?_map, hi]; rfl) rfl
  · rw [List.getElem?_map] at h1
    obtain ⟨⟨s, c'⟩, h4, h5⟩ := Option.map_eq_some_iff.1 h1
    exact ⟨s, by rw [h4, ← h5]⟩
theorem near_far {T : List TabT} {ws t : Cel} {i n : Nat} {c cn : TabT} (h : Least1 (T.map (·.2)) ws t n) (hn : T[n]? = some cn) (hi : T[i]? = some c) : distW ws cn.2 t ≤ distW ws c.2 t ∧ (i < n → distW ws c.2 t ≠ distW ws cn.2 t) := by
  obtain ⟨c', h1, h2, h3⟩ := h
  have e : c' = cn.2 := by
    rw [List.getElem?_map, hn] at h1
    exact (Option.some.inj h1).symm
  subst e
  refine ⟨h2 _ (List.mem_map.2 ⟨c, List.mem_of_getElem? hi, rfl⟩), fun hin => h3 i _ hin (by rw [List.getElem?_map, hi]; rfl)⟩
/-- No mix is nearer than the best one. -/
theorem mix_far {T : List TabT} {ws t : Cel} {m : Int} {i k : Nat} {e : Int} {s1 s2 : ByteArray} {c1 c2 : Cel} (h : MinM ws T t m) (hik : i < k) (h1 : T[i]? = some (s1, c1)) (h2 : T[k]? = some (s2, c2)) (he : 1 ≤ e ∧ e ≤ 7) : m ≤ distW ws (mixC (8 - e) c1 e c2) (mul8 t) := by
  have hk := (List.getElem?_eq_some_iff.1 h2).1
  have e1 : colM T ((i : Int), (k : Int), e) = mixC (8 - e) c1 e c2 := by
    unfold colM
    dsimp only
    simp only [Int.toNat_natCast, h1, h2]
    rfl
  rw [← e1]
  exact h.2 _ (List.mem_map.2 ⟨((i : Int), (k : Int), e), mixL_ok.2 ⟨i, k, rfl, rfl, hik, hk, he.1, he.2⟩, rfl⟩)
end Go.Proofs
end

section
/- Slices of ints: what a slice value reads as. -/
namespace Go.Proofs
open Go.RowKit
set_option maxRecDepth 1000000
def valI (x : Int) : Value := .int .i64 x
def IAt (w : World) (b o : Nat) (l : List Int) : Prop := ∀ i x, l[i]? = some x → w.cell? ⟨b, o + i, none⟩ = some (.int .i64 x)
/-- A slice value that reads as a list of ints: nil, empty or not. -/
def SlI (w : World) (v : Value) (l : List Int) : Prop :=
  (v = .slice none 0 0 ∧ l = []) ∨ ∃ (a : Addr) (cap : Nat), v = .slice (some a) l.length cap ∧ (l ≠ [] → a.spot = none ∧ a.block < w.heap.size ∧ IAt w a.block a.off l)
theorem IAt.below {w w' : World} {b o : Nat} {l : List Int} (h : IAt w b o l) {B : Nat} (hb : Below B w w') (hB : b < B) : IAt w' b o l := fun i x hi => (hb.cell (p := ⟨b, _, none⟩) hB).trans (h i x hi)
theorem SlI.below {w w' : World} {v : Value} {l : List Int} (h : SlI w v l) (hb : Below w.heap.size w w') : SlI w' v l := by
  rcases h with h | ⟨a, cap, rfl, h⟩
  · exact .inl h
  · refine .inr ⟨a, cap, rfl, fun hl => ?_⟩
    obtain ⟨h1, h2, h3⟩ := h hl
    exact ⟨h1, Nat.lt_of_lt_of_le h2 hb.size, h3.below hb h2⟩
theorem SlI.row {w : World} {b o cap : Nat} {l : List Int} (h : IAt w b o l) (hb : b < w.heap.size) : SlI w (.slice (some ⟨b, o, none⟩) l.length cap) l := .inr ⟨_, cap, rfl, fun _ => ⟨rfl, hb, h⟩⟩
theorem SlI.form {w : World} {v : Value} {l : List Int} (h : SlI w v l) : ∃ (A : Option Addr) (cap : Nat), v = .slice A l.length cap := by
  rcases h with ⟨rfl, rfl⟩ | ⟨a, cap, rfl, _⟩
  · exact ⟨none, 0, rfl⟩
  · exact ⟨some a, cap, rfl⟩
/-- The int at a place. -/
theorem SlI.cells {w : World} {A : Option Addr} {n cap : Nat} {l : List Int} (h : SlI w (.slice A n cap) l) {k : Nat} (hk : k < l.length) :
    ∃ b o x, A = some ⟨b, o, none⟩ ∧ n = l.length ∧ b < w.heap.size ∧ l[k]? = some x ∧ w.cell? ⟨b, o + k, none⟩ = some (.int .i64 x) := by
  rcases h with ⟨_, rfl⟩ | ⟨a, cap', e, h⟩
  · exact absurd hk (Nat.not_lt_zero k)
  · injection e with e1 e2 _
    obtain ⟨h1, h2, h3⟩ := h (fun e => by subst e; exact absurd hk (Nat.not_lt_zero k))
    obtain ⟨b, o, s⟩ := a
    obtain rfl : s = none := h1
    exact ⟨b, o, _, e1, e2, h2, List.getElem?_eq_getElem hk, h3 k _ (List.getElem?_eq_getElem hk)⟩
/-- The address of a slice with elements. -/
theorem SlI.addr {w : World} {A : Option Addr} {n cap : Nat} {l : List Int} (h : SlI w (.slice A n cap) l) (hl : 0 < l.length) : ∃ b o, A = some ⟨b, o, none⟩ ∧ b < w.heap.size ∧ IAt w b o l := by
  rcases h with ⟨_, rfl⟩ | ⟨a, cap', e, h⟩
  · exact absurd hl (Nat.not_lt_zero _)
  · injection e with e1 e2 _
    obtain ⟨h1, h2, h3⟩ := h (fun e => by subst e; exact absurd hl (Nat.not_lt_zero _))
    obtain ⟨b, o, s⟩ := a
    obtain rfl : s = none := h1
    exact ⟨b, o, e1, h2, h3⟩
/-- A row of ints of a call's own. -/
def OwnI (T : TypeId) (w : World) (B : Nat) (v : Value) (l : List Int) : Prop := w.ownsRow B T 1 v l.length (l.map valI)
theorem OwnI.at_ {T : TypeId} {w : World} {B g n cap : Nat} {l : List Int} (h : OwnI T w B (.slice (some ⟨g, 0, none⟩) n cap) l) (hn : n = l.length) : IAt w g 0 l := fun i x hi => by
  subst hn
  have hl : i < l.length := (List.getElem?_eq_some_iff.1 hi).1
  have := World.ownsRow.cellAt h i (by omega)
  rw [Nat.zero_add, this, List.getElem?_map, hi]
  rfl
theorem OwnI.form {T : TypeId} {w : World} {B : Nat} {v : Value} {l : List Int} (h : OwnI T w B v l) : (v = .slice none 0 0 ∧ l = []) ∨ ∃ g cap, v = .slice (some ⟨g, 0, none⟩) l.length cap ∧ B ≤ g ∧ g < w.heap.size ∧ IAt w g 0 l := by
  have h' := h
  rcases h.2 with ⟨h1, h2⟩ | ⟨g, cap, cur, rfl, hB, hg, _⟩
  · exact .inl ⟨h1, List.eq_nil_of_length_eq_zero h2⟩
  · exact .inr ⟨g, cap, rfl, hB, (Array.getElem?_eq_some_iff.1 hg).1, OwnI.at_ h' rfl⟩
theorem OwnI.sl {T : TypeId} {w : World} {B : Nat} {v : Value} {l : List Int} (h : OwnI T w B v l) : SlI w v l := by
  rcases h.form with h | ⟨g, cap, rfl, _, hg, hr⟩
  · exact .inl h
  · exact .row hr hg
theorem OwnI.store {T : TypeId} {w : World} {B g n cap : Nat} {l : List Int} (h : OwnI T w B (.slice (some ⟨g, 0, none⟩) n cap) l) (hn : n = l.length) {k : Nat} (x : Int) :
    OwnI T (w.setCell ⟨g, k, none⟩ (.int .i64 x)) B (.slice (some ⟨g, 0, none⟩) n cap) (l.set k x) := by
  subst hn
  have h1 := (World.ownsRow.stored h k (.int .i64 x)).1
  unfold OwnI
  rw [List.length_set, List.map_set]
  exact h1
theorem OwnI.alloc {T : TypeId} {w : World} {B : Nat} {v : Value} {l : List Int} (h : OwnI T w B v l) (o : Obj) : OwnI T (w.alloc o) B v l := World.ownsRow.alloc h o
theorem OwnI.keep {T : TypeId} {w w' : World} {B : Nat} {v : Value} {l : List Int} (h : OwnI T w B v l) (hb : Below w.heap.size w w') : OwnI T w' B v l := by
  refine ⟨h.1, ?_⟩
  rcases h.2 with h1 | ⟨g, cap, cur, rfl, hB, hg, r⟩
  · exact .inl h1
  · refine .inr ⟨g, cap, cur, rfl, hB, ?_, r⟩
    rw [hb.block g (Array.getElem?_eq_some_iff.1 hg).1]
    exact hg
end Go.Proofs
end
