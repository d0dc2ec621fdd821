import Derived.Test.YtpjmobpmpghpeaaGreatDoorRow
import Derived.Laws.OwnMore
import Derived.Lib.Hide
import Derived.Maps.AppendAt
import Derived.Test.YtpjmobpmpghpeaaGreatDoorShdJ
section
/- Slices of ints: what a slice value reads as. -/
namespace Go.Proofs
open Go.RowKit
set_option maxRecDepth 1000000
def valI (x : Int) : Value := .int .i64 x
def IAt (w : World) (b o : Nat) (l : List Int) : Prop := ∀ i x, l[i]? = some x → w.cell? ⟨b, o + i, none⟩ = some (.int .i64 x)
/-- A slice value that reads as a list of ints: nil, empty or not. -/
def SlI (w : World) (v : Value) (l : List Int) : Prop :=
  (v = .slice none 0 0 ∧ l = []) ∨ ∃ (a : Addr) (cap : Nat), v = .slice (some a) l.length cap ∧ (l ≠ [] → a.spot = none ∧ a.block < w.heap.size ∧ IAt w a.block a.off l)
theorem IAt.below {w w' : World} {b o : Nat} {l : List Int} (h : IAt w b o l) {B : Nat} (hb : Below B w w') (hB : b < B) : IAt w' b o l := fun i x hi => (hb.cell (p := ⟨b, _, none⟩) hB).trans (h i x hi)
theorem SlI.below {w w' : World} {v : Value} {l : List Int} (h : SlI w v l) (hb : Below w.heap.size w w') : SlI w' v l := by
  rcases h with h | ⟨a, cap, rfl, h⟩
  · exact .inl h
  · refine .inr ⟨a, cap, rfl, fun hl => ?_⟩
    obtain ⟨h1, h2, h3⟩ := h hl
    exact ⟨h1, Nat.lt_of_lt_of_le h2 hb.size, h3.below hb h2⟩
theorem SlI.row {w : World} {b o cap : Nat} {l : List Int} (h : IAt w b o l) (hb : b < w.heap.size) : SlI w (.slice (some ⟨b, o, none⟩) l.length cap) l := .inr ⟨_, cap, rfl, fun _ => ⟨rfl, hb, h⟩⟩
theorem SlI.form {w : World} {v : Value} {l : List Int} (h : SlI w v l) : ∃ (A : Option Addr) (cap : Nat), v = .slice A l.length cap := by
  rcases h with ⟨rfl, rfl⟩ | ⟨a, cap, rfl, _⟩
  · exact ⟨none, 0, rfl⟩
  · exact ⟨some a, cap, rfl⟩
/-- The int at a place. -/
theorem SlI.cells {w : World} {A : Option Addr} {n cap : Nat} {l : List Int} (h : SlI w (.slice A n cap) l) {k : Nat} (hk : k < l.length) :
    ∃ b o x, A = some ⟨b, o, none⟩ ∧ n = l.length ∧ b < w.heap.size ∧ l[k]? = some x ∧ w.cell? ⟨b, o + k, none⟩ = some (.int .i64 x) := by
  rcases h with ⟨_, rfl⟩ | ⟨a, cap', e, h⟩
  · exact absurd hk (Nat.not_lt_zero k)
  · injection e with e1 e2 _
    obtain ⟨h1, h2, h3⟩ := h (fun e => by subst e; exact absurd hk (Nat.not_lt_zero k))
    obtain ⟨b, o, s⟩ := a
    obtain rfl : s = none := h1
    exact ⟨b, o, _, e1, e2, h2, List.getElem?_eq_getElem hk, h3 k _ (List.getElem?_eq_getElem hk)⟩
/-- The address of a slice with elements. -/
theorem SlI.addr {w : World} {A : Option Addr} {n cap : Nat} {l : List Int} (h : SlI w (.slice A n cap) l) (hl : 0 < l.length) : ∃ b o, A = some ⟨b, o, none⟩ ∧ b < w.heap.size ∧ IAt w b o l := by
  rcases h with ⟨_, rfl⟩ | ⟨a, cap', e, h⟩
  · exact absurd hl (Nat.not_lt_zero _)
  · injection e with e1 e2 _
    obtain ⟨h1, h2, h3⟩ := h (fun e => by subst e; exact absurd hl (Nat.not_lt_zero _))
    obtain ⟨b, o, s⟩ := a
    obtain rfl : s = none := h1
    exact ⟨b, o, e1, h2, h3⟩
/-- A row of ints of a call's own. -/
def OwnI (T : TypeId) (w : World) (B : Nat) (v : Value) (l : List Int) : Prop := w.ownsRow B T 1 v l.length (l.map valI)
theorem OwnI.at_ {T : TypeId} {w : World} {B g n cap : Nat} {l : List Int} (h : OwnI T w B (.slice (some ⟨g, 0, none⟩) n cap) l) (hn : n = l.length) : IAt w g 0 l := fun i x hi => by
  subst hn
  have hl : i < l.length := (List.getElem?_eq_some_iff.1 hi).1
  have := World.ownsRow.cellAt h i (by omega)
  rw [Nat.zero_add, this, List.getElem?_map, hi]
  rfl
theorem OwnI.form {T : TypeId} {w : World} {B : Nat} {v : Value} {l : List Int} (h : OwnI T w B v l) : (v = .slice none 0 0 ∧ l = []) ∨ ∃ g cap, v = .slice (some ⟨g, 0, none⟩) l.length cap ∧ B ≤ g ∧ g < w.heap.size ∧ IAt w g 0 l := by
  have h' := h
  rcases h.2 with ⟨h1, h2⟩ | ⟨g, cap, cur, rfl, hB, hg, _⟩
  · exact .inl ⟨h1, List.eq_nil_of_length_eq_zero h2⟩
  · exact .inr ⟨g, cap, rfl, hB, (Array.getElem?_eq_some_iff.1 hg).1, OwnI.at_ h' rfl⟩
theorem OwnI.sl {T : TypeId} {w : World} {B : Nat} {v : Value} {l : List Int} (h : OwnI T w B v l) : SlI w v l := by
  rcases h.form with h | ⟨g, cap, rfl, _, hg, hr⟩
  · exact .inl h
  · exact .row hr hg
theorem OwnI.store {T : TypeId} {w : World} {B g n cap : Nat} {l : List Int} (h : OwnI T w B (.slice (some ⟨g, 0, none⟩) n cap) l) (hn : n = l.length) {k : Nat} (x : Int) :
    OwnI T (w.setCell ⟨g, k, none⟩ (.int .i64 x)) B (.slice (some ⟨g, 0, none⟩) n cap) (l.set k x) := by
  subst hn
  have h1 := (World.ownsRow.stored h k (.int .i64 x)).1
  unfold OwnI
  rw [List.length_set, List.map_set]
  exact h1
theorem OwnI.alloc {T : TypeId} {w : World} {B : Nat} {v : Value} {l : List Int} (h : OwnI T w B v l) (o : Obj) : OwnI T (w.alloc o) B v l := World.ownsRow.alloc h o
theorem OwnI.keep {T : TypeId} {w w' : World} {B : Nat} {v : Value} {l : List Int} (h : OwnI T w B v l) (hb : Below w.heap.size w w') : OwnI T w' B v l := by
  refine ⟨h.1, ?_⟩
  rcases h.2 with h1 | ⟨g, cap, cur, rfl, hB, hg, r⟩
  · exact .inl h1
  · refine .inr ⟨g, cap, cur, rfl, hB, ?_, r⟩
    rw [hb.block g (Array.getElem?_eq_some_iff.1 hg).1]
    exact hg
end Go.Proofs
end

section
/- Jobs: rows of ints, appended to and copied; Contains. -/
namespace Go.Proofs
open Go.RowKit
set_option maxHeartbeats 4000000
set_option maxRecDepth 1000000
theorem OwnI.lt {T : TypeId} {w : World} {B : Nat} {v : Value} {l : List Int} (h : OwnI T w B v l) : ∀ g, v.ownBlock = some g → B ≤ g ∧ g < w.heap.size := fun g e => by
  rcases h.2 with ⟨h1, _⟩ | ⟨g', cap, cur, rfl, hB, hg, r⟩
  · rw [h1] at e; cases e
  · obtain rfl : g' = g := by simpa [Value.ownBlock] using e
    exact ⟨hB, (Array.getElem?_eq_some_iff.1 hg).1⟩
theorem OwnI.keepB {T : TypeId} {w w' : World} {B : Nat} {v : Value} {l : List Int} (h : OwnI T w B v l) (hb : ∀ g, v.ownBlock = some g → w'.heap[g]? = w.heap[g]?) : OwnI T w' B v l := by
  refine ⟨h.1, ?_⟩
  rcases h.2 with h1 | ⟨g, cap, cur, rfl, hB, hg, r⟩
  · exact .inl h1
  · exact .inr ⟨g, cap, cur, rfl, hB, (hb g rfl).trans hg, r⟩
theorem OwnI.lower {T : TypeId} {w : World} {B B' : Nat} {v : Value} {l : List Int} (h : OwnI T w B' v l) (hle : B ≤ B') : OwnI T w B v l := ⟨h.1, h.2.imp id fun ⟨g, cap, cur, h1, h2, r⟩ => ⟨g, cap, cur, h1, Nat.le_trans hle h2, r⟩⟩
theorem OwnI.nil (T : TypeId) (w : World) (B : Nat) : OwnI T w B (.slice none 0 0) [] := World.ownsRow_nil w B _ _
/-- A longer row of the same block has the shorter one. -/
theorem OwnI.prefix_ {T : TypeId} {w : World} {B g n cap : Nat} {l m : List Int} (h : OwnI T w B (.slice (some ⟨g, 0, none⟩) (l.length + m.length) cap) (l ++ m)) (hn : n = l.length) : OwnI T w B (.slice (some ⟨g, 0, none⟩) n cap) l := by
  subst hn
  refine ⟨by simp, ?_⟩
  rcases h.2 with ⟨h1, _⟩ | ⟨g', cap', cur, he, hB, hg, h1, h2, h3, h4⟩
  · cases h1
  · injection he with e1 e2 e3
    injection e1 with e1
    injection e1 with e1 _
    subst e1 e3
    refine .inr ⟨g, cap, cur, rfl, hB, hg, ?_, h2, h3, ?_⟩
    · rw [List.length_append] at h1
      omega
    · have h5 := congrArg (List.take (l.length * 1)) h4
      rw [List.take_take, Nat.min_eq_left (by simp)] at h5
      rw [h5, List.map_append, List.take_append_of_le_length (by simp)]
      exact List.take_of_length_le (by simp)
theorem ints_one {l : List Int} : ∀ u ∈ l.map valI, u.oneCell' = true := fun u hu => by
  obtain ⟨x, _, rfl⟩ := List.mem_map.1 hu
  rfl
theorem addr_add0 (b o j : Nat) : (⟨b, o, none⟩ : Addr).add j = ⟨b, o + j, none⟩ := by
  unfold Addr.add
  split
  · simp_all
  · rfl
/-- append of ints to a row of a call's own: in its place, or as a new row. -/
theorem run_append_ints (w : World) (ty : TypeId) (B : Nat) (v : Value) (l m : List Int) (hown : OwnI 3 w B v l) (b o c : Nat) (hm : IAt w b o m) (hm0 : m ≠ []) (hn : l.length + m.length ≤ 100000) (hB : B ≤ w.heap.size) :
    ∃ A2 c2 w', (Builtin.append_ #[95, 95] ty #[v, .slice (some ⟨b, o, none⟩) m.length c]).run Tryz.prog w = .ok (.slice A2 (l.length + m.length) c2) w' ∧ OwnI 3 w' B (.slice A2 (l.length + m.length) c2) (l ++ m) ∧ w.grownBy w' v.ownBlock ∧ OwnI 3 w' B v l ∧
      ((∃ g, A2 = some ⟨g, 0, none⟩ ∧ v = .slice (some ⟨g, 0, none⟩) l.length c2) ∨ A2 = some ⟨w.heap.size, 0, none⟩) := by
  obtain ⟨j0, hj, hy0, hy1, hy2⟩ := info_parts (P := Tryz.prog) (e := 3) (z := .int .i64 0) (size := 1) (bytes := 8) (by kernel_rfl)
  have hmp : 0 < m.length := List.length_pos_iff.2 hm0
  have hnews : ∀ j u, (m.map valI)[j]? = some u → w.cell? ((⟨b, o, none⟩ : Addr).add j) = some u := fun j u hj => by
    rw [List.getElem?_map] at hj
    obtain ⟨x, hx, rfl⟩ := Option.map_eq_some_iff.1 hj
    rw [addr_add0]
    exact hm j x hx
  obtain ⟨v', w', hr, h2, h3, h4, h5⟩ := run_append_own_at (P := Tryz.prog) w B 95 ty 3 j0 _ 1 8 Tryz.underlying95 hj hy0 hy1 hy2 rfl (by decide) v l.length (l.map valI) hown ⟨b, o, none⟩ m.length c (m.map valI) (by simp) hnews ints_one (by unfold maxLen; omega) (by omega) hB
  have hO : OwnI 3 w' B v' (l ++ m) := by
    unfold OwnI
    rw [List.length_append, List.map_append]
    exact h2
  rcases hown.2 with ⟨h1, _⟩ | ⟨g, cap, cur, rfl, hBg, hg, hnc, hcm, hcs, htake⟩
  · rcases hO.form with ⟨hv, _⟩ | ⟨g2, c2, hv, _, _, _⟩
    · have := (h4.1 hv).2
      omega
    · rw [List.length_append] at hv
      subst hv
      have hl0 : l = [] := List.eq_nil_of_length_eq_zero (by omega)
      refine ⟨_, c2, w', hr, hO, h3, by rw [h1, hl0]; exact OwnI.nil _ _ _, .inr ?_⟩
      rcases h5 with h5 | h5
      · rw [h1] at h5
        cases h5
      · have : g2 = w.heap.size := by simpa [Value.ownBlock] using h5
        rw [this]
  · by_cases hroom : l.length + m.length ≤ cap
    · have hfit : l.length * j0.size + (m.map valI).length ≤ cur.size := by rw [hy1, hcs]; simp; omega
      have hr2 := run_append_room (P := Tryz.prog) w 95 ty 3 j0 Tryz.underlying95 hj g l.length cap cur hg ⟨b, o, none⟩ m.length c (m.map valI) (by rw [hy1]; simp) hnews ints_one hroom hfit
      rw [hr2] at hr
      injection hr with e1 e2
      subst e1
      exact ⟨_, cap, w', by rw [hr2, e2], hO, h3, hO.prefix_ rfl, .inl ⟨g, rfl, rfl⟩⟩
    · have holds : ∀ j u, (l.map valI)[j]? = some u → w.cell? ((⟨g, 0, none⟩ : Addr).add j) = some u := World.ownsRow.cells hown (g := g) rfl
      have hr2 := run_append_grow (P := Tryz.prog) w 95 ty 3 j0 _ Tryz.underlying95 hj hy0 ⟨g, 0, none⟩ l.length cap (l.map valI) (by rw [hy1]; simp) holds ⟨b, o, none⟩ m.length c (m.map valI) (by rw [hy1]; simp) hnews (by omega) (by omega) (by rw [hy2]; exact growslice_fits (by omega) (by omega))
      rw [hr2] at hr
      injection hr with e1 e2
      subst e1
      refine ⟨_, _, w', by rw [hr2, e2], hO, h3, ?_, .inr rfl⟩
      rw [← e2]
      exact hown.keepB fun k e => heap_alloc_old w.drew _ (hown.lt k e).2
end Go.Proofs
end
