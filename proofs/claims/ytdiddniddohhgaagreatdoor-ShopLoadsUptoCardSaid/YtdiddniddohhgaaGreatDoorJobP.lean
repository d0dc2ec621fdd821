import Derived.Test.YtdiddniddohhgaaGreatDoorShdP
import Derived.Test.YtdiddniddohhgaaGreatDoorShdJ
section
/- Jobs: rows of ints, appended to and copied; Contains. -/
namespace Go.Proofs
open Go.RowKit
set_option maxHeartbeats 4000000
set_option maxRecDepth 1000000
theorem OwnI.lt {T : TypeId} {w : World} {B : Nat} {v : Value} {l : List Int} (h : OwnI T w B v l) : ∀ g, v.ownBlock = some g → B ≤ g ∧ g < w.heap.size := fun g e => by
  rcases h.2 with ⟨h1, _⟩ | ⟨g', cap, cur, rfl, hB, hg, r⟩
  · rw [h1] at e; cases e
  · obtain rfl : g' = g := by simpa [Value.ownBlock] using e
    exact ⟨hB, (Array.getElem?_eq_some_iff.1 hg).1⟩
theorem OwnI.keepB {T : TypeId} {w w' : World} {B : Nat} {v : Value} {l : List Int} (h : OwnI T w B v l) (hb : ∀ g, v.ownBlock = some g → w'.heap[g]? = w.heap[g]?) : OwnI T w' B v l := by
  refine ⟨h.1, ?_⟩
  rcases h.2 with h1 | ⟨g, cap, cur, rfl, hB, hg, r⟩
  · exact .inl h1
  · exact .inr ⟨g, cap, cur, rfl, hB, (hb g rfl).trans hg, r⟩
theorem OwnI.lower {T : TypeId} {w : World} {B B' : Nat} {v : Value} {l : List Int} (h : OwnI T w B' v l) (hle : B ≤ B') : OwnI T w B v l := ⟨h.1, h.2.imp id fun ⟨g, cap, cur, h1, h2, r⟩ => ⟨g, cap, cur, h1, Nat.le_trans hle h2, r⟩⟩
theorem OwnI.nil (T : TypeId) (w : World) (B : Nat) : OwnI T w B (.slice none 0 0) [] := World.ownsRow_nil w B _ _
/-- A longer row of the same block has the shorter one. -/
theorem OwnI.prefix_ {T : TypeId} {w : World} {B g n cap : Nat} {l m : List Int} (h : OwnI T w B (.slice (some ⟨g, 0, none⟩) (l.length + m.length) cap) (l ++ m)) (hn : n = l.length) : OwnI T w B (.slice (some ⟨g, 0, none⟩) n cap) l := by
  subst hn
  refine ⟨by simp, ?_⟩
  rcases h.2 with ⟨h1, _⟩ | ⟨g', cap', cur, he, hB, hg, h1, h2, h3, h4⟩
  · cases h1
  · injection he with e1 e2 e3
    injection e1 with e1
    injection e1 with e1 _
    subst e1 e3
    refine .inr ⟨g, cap, cur, rfl, hB, hg, ?_, h2, h3, ?_⟩
    · rw [List.length_append] at h1
      omega
    · have h5 := congrArg (List.take (l.length * 1)) h4
      rw [List.take_take, Nat.min_eq_left (by simp)] at h5
      rw [h5, List.map_append, List.take_append_of_le_length (by simp)]
      exact List.take_of_length_le (by simp)
theorem ints_one {l : List Int} : ∀ u ∈ l.map valI, u.oneCell' = true := fun u hu => by
  obtain ⟨x, _, rfl⟩ := List.mem_map.1 hu
  rfl
theorem addr_add0 (b o j : Nat) : (⟨b, o, none⟩ : Addr).add j = ⟨b, o + j, none⟩ := by
  unfold Addr.add
  split
  · simp_all
  · rfl
/-- append of ints to a row of a call's own: in its place, or as a new row. -/
theorem run_append_ints (w : World) (ty : TypeId) (B : Nat) (v : Value) (l m : List Int) (hown : OwnI 3 w B v l) (b o c : Nat) (hm : IAt w b o m) (hm0 : m ≠ []) (hn : l.length + m.length ≤ 100000) (hB : B ≤ w.heap.size) :
    ∃ A2 c2 w', (Builtin.append_ #[23, 23] ty #[v, .slice (some ⟨b, o, none⟩) m.length c]).run Tryz.prog w = .ok (.slice A2 (l.length + m.length) c2) w' ∧ OwnI 3 w' B (.slice A2 (l.length + m.length) c2) (l ++ m) ∧ w.grownBy w' v.ownBlock ∧ OwnI 3 w' B v l ∧
      ((∃ g, A2 = some ⟨g, 0, none⟩ ∧ v = .slice (some ⟨g, 0, none⟩) l.length c2) ∨ A2 = some ⟨w.heap.size, 0, none⟩) := by
  obtain ⟨j0, hj, hy0, hy1, hy2⟩ := info_parts (P := Tryz.prog) (e := 3) (z := .int .i64 0) (size := 1) (bytes := 8) (by kernel_rfl)
  have hmp : 0 < m.length := List.length_pos_iff.2 hm0
  have hnews : ∀ j u, (m.map valI)[j]? = some u → w.cell? ((⟨b, o, none⟩ : Addr).add j) = some u := fun j u hj => by
    rw [List.getElem?_map] at hj
    obtain ⟨x, hx, rfl⟩ := Option.map_eq_some_iff.1 hj
    rw [addr_add0]
    exact hm j x hx
  obtain ⟨v', w', hr, h2, h3, h4, h5⟩ := run_append_own_at (P := Tryz.prog) w B 23 ty 3 j0 _ 1 8 Tryz.underlying23 hj hy0 hy1 hy2 rfl (by decide) v l.length (l.map valI) hown ⟨b, o, none⟩ m.length c (m.map valI) (by simp) hnews ints_one (by unfold maxLen; omega) (by omega) hB
  have hO : OwnI 3 w' B v' (l ++ m) := by
    unfold OwnI
    rw [List.length_append, List.map_append]
    exact h2
  rcases hown.2 with ⟨h1, _⟩ | ⟨g, cap, cur, rfl, hBg, hg, hnc, hcm, hcs, htake⟩
  · rcases hO.form with ⟨hv, _⟩ | ⟨g2, c2, hv, _, _, _⟩
    · have := (h4.1 hv).2
      omega
    · rw [List.length_append] at hv
      subst hv
      have hl0 : l = [] := List.eq_nil_of_length_eq_zero (by omega)
      refine ⟨_, c2, w', hr, hO, h3, by rw [h1, hl0]; exact OwnI.nil _ _ _, .inr ?_⟩
      rcases h5 with h5 | h5
      · rw [h1] at h5
        cases h5
      · have : g2 = w.heap.size := by simpa [Value.ownBlock] using h5
        rw [this]
  · by_cases hroom : l.length + m.length ≤ cap
    · have hfit : l.length * j0.size + (m.map valI).length ≤ cur.size := by rw [hy1, hcs]; simp; omega
      have hr2 := run_append_room (P := Tryz.prog) w 23 ty 3 j0 Tryz.underlying23 hj g l.length cap cur hg ⟨b, o, none⟩ m.length c (m.map valI) (by rw [hy1]; simp) hnews ints_one hroom hfit
      rw [hr2] at hr
      injection hr with e1 e2
      subst e1
      exact ⟨_, cap, w', by rw [hr2, e2], hO, h3, hO.prefix_ rfl, .inl ⟨g, rfl, rfl⟩⟩
    · have holds : ∀ j u, (l.map valI)[j]? = some u → w.cell? ((⟨g, 0, none⟩ : Addr).add j) = some u := World.ownsRow.cells hown (g := g) rfl
      have hr2 := run_append_grow (P := Tryz.prog) w 23 ty 3 j0 _ Tryz.underlying23 hj hy0 ⟨g, 0, none⟩ l.length cap (l.map valI) (by rw [hy1]; simp) holds ⟨b, o, none⟩ m.length c (m.map valI) (by rw [hy1]; simp) hnews (by omega) (by omega) (by rw [hy2]; exact growslice_fits (by omega) (by omega))
      rw [hr2] at hr
      injection hr with e1 e2
      subst e1
      refine ⟨_, _, w', by rw [hr2, e2], hO, h3, ?_, .inr rfl⟩
      rw [← e2]
      exact hown.keepB fun k e => heap_alloc_old w.drew _ (hown.lt k e).2
end Go.Proofs
end

section
/- Jobs: when they start and end at each station; no world. -/
namespace Go.Proofs
open Go.RowKit
set_option maxHeartbeats 4000000
set_option maxRecDepth 1000000
abbrev JobT := ByteArray × List Int × List Int
def at0 (l : List Int) (i : Nat) : Int := (l[i]?).getD 0
theorem at0_some {l : List Int} {i : Nat} {x : Int} (h : l[i]? = some x) : at0 l i = x := by unfold at0; rw [h]; rfl
theorem at0_set {l : List Int} {i k : Nat} {x : Int} (hk : k < l.length) : at0 (l.set k x) i = if i = k then x else at0 l i := by
  unfold at0
  by_cases h : i = k
  · subst h
    rw [List.getElem?_set_self hk, if_pos rfl]
    rfl
  · rw [List.getElem?_set_ne (fun e => h e.symm), if_neg h]
/-- The start at station s, once that at the station before is known. -/
def stepS (t d st : List Int) (s : Nat) : List Int := st.set s (max (at0 st s) (at0 st (s - 1) + at0 t (s - 1) + at0 d (s - 1)))
/-- The starts, up to station k, not with it. -/
def preS (t d free : List Int) : Nat → List Int
  | 0 => free
  | k + 1 => if k = 0 then free else stepS t d (preS t d free k) k
theorem preS_len (t d free : List Int) : ∀ k, (preS t d free k).length = free.length
  | 0 => rfl
  | k + 1 => by
    unfold preS
    split
    · rfl
    · unfold stepS
      rw [List.length_set, preS_len t d free k]
def startsP (t d free : List Int) : List Int := preS t d free free.length
def preE (t st : List Int) : Nat → List Int
  | 0 => st
  | k + 1 => (preE t st k).set k (at0 (preE t st k) k + at0 t k)
theorem preE_len (t st : List Int) : ∀ k, (preE t st k).length = st.length
  | 0 => rfl
  | k + 1 => by
    unfold preE
    rw [List.length_set, preE_len t st k]
def endsP (t st : List Int) : List Int := preE t st t.length
theorem preE_at (t st : List Int) : ∀ (k : Nat), k ≤ st.length → ∀ i, at0 (preE t st k) i = at0 st i + (if i < k then at0 t i else 0)
  | 0, _, i => by simp [preE]
  | k + 1, hk, i => by
    unfold preE
    rw [at0_set (by rw [preE_len]; omega), preE_at t st k (by omega) i, preE_at t st k (by omega) k]
    by_cases h : i = k
    · subst h
      simp
    · rw [if_neg h]
      by_cases h2 : i < k
      · rw [if_pos h2, if_pos (by omega)]
      · rw [if_neg h2, if_neg (by omega)]
structure JobOk (m : Nat) (j : JobT) : Prop where
  t : j.2.1.length = m
  d : j.2.2.length + 1 = m
  few : m ≤ 8
  tb : ∀ x ∈ j.2.1, 0 ≤ x ∧ x ≤ 1440
  db : ∀ x ∈ j.2.2, 0 ≤ x ∧ x ≤ 1440
theorem at0_bd {l : List Int} (h : ∀ x ∈ l, 0 ≤ x ∧ x ≤ 1440) (i : Nat) : 0 ≤ at0 l i ∧ at0 l i ≤ 1440 := by
  unfold at0
  cases e : l[i]? with
  | none => simp
  | some x => exact h x (List.mem_of_getElem? e)
def FreeOk (m : Nat) (B : Int) (l : List Int) : Prop := l.length = m ∧ ∀ i, 0 ≤ at0 l i ∧ at0 l i ≤ B
theorem preS_bd {m : Nat} {j : JobT} (hj : JobOk m j) {free : List Int} {B : Int} (hf : FreeOk m B free) : ∀ k, k ≤ m → ∀ i, at0 free i ≤ at0 (preS j.2.1 j.2.2 free k) i ∧ at0 (preS j.2.1 j.2.2 free k) i ≤ B + 2880 * k
  | 0, _, i => ⟨Int.le_refl _, by have := (hf.2 i).2; simp only [preS]; omega⟩
  | k + 1, hk, i => by
    have ih := preS_bd hj hf k (by omega)
    unfold preS
    split
    · have := (hf.2 i).2
      exact ⟨Int.le_refl _, by omega⟩
    · rename_i hk0
      unfold stepS
      have hlen : k < (preS j.2.1 j.2.2 free k).length := by rw [preS_len, hf.1]; omega
      rw [at0_set hlen]
      have h1 := ih i
      have h2 := ih (k - 1)
      have h3 := at0_bd hj.tb (k - 1)
      have h4 := at0_bd hj.db (k - 1)
      split
      · rename_i he
        subst he
        omega
      · omega
theorem starts_bd {m : Nat} {j : JobT} (hj : JobOk m j) {free : List Int} {B : Int} (hf : FreeOk m B free) : FreeOk m (B + 23040) (startsP j.2.1 j.2.2 free) ∧ ∀ i, at0 free i ≤ at0 (startsP j.2.1 j.2.2 free) i := by
  unfold startsP
  have hl : (preS j.2.1 j.2.2 free free.length).length = m := by rw [preS_len, hf.1]
  have h := preS_bd hj hf free.length (by rw [hf.1]; exact Nat.le_refl _)
  have hm := hj.few
  have hl2 := hf.1
  refine ⟨⟨hl, fun i => ?_⟩, fun i => (h i).1⟩
  have h1 := h i
  have h2 := (hf.2 i).1
  omega
theorem ends_bd {m : Nat} {j : JobT} (hj : JobOk m j) {st : List Int} {B : Int} (hs : FreeOk m B st) : FreeOk m (B + 1440) (endsP j.2.1 st) ∧ ∀ i, at0 st i ≤ at0 (endsP j.2.1 st) i := by
  unfold endsP
  have h := preE_at j.2.1 st j.2.1.length (by rw [hj.t, hs.1]; exact Nat.le_refl _)
  have hb := fun i => at0_bd hj.tb i
  have key : ∀ i, at0 st i ≤ at0 (preE j.2.1 st j.2.1.length) i ∧ at0 (preE j.2.1 st j.2.1.length) i ≤ at0 st i + 1440 := fun i => by
    rw [h i]
    have := hb i
    split <;> omega
  refine ⟨⟨by rw [preE_len, hs.1], fun i => ?_⟩, fun i => (key i).1⟩
  have := key i
  have := hs.2 i
  omega
/-- What a job leaves of stations that are free from some minutes on. -/
def goJ (j : JobT) (free : List Int) : List Int := endsP j.2.1 (startsP j.2.1 j.2.2 free)
theorem go_bd {m : Nat} {j : JobT} (hj : JobOk m j) {free : List Int} {B : Int} (hf : FreeOk m B free) : FreeOk m (B + 24480) (goJ j free) ∧ ∀ i, at0 free i ≤ at0 (goJ j free) i := by
  obtain ⟨h1, h2⟩ := starts_bd hj hf
  obtain ⟨h3, h4⟩ := ends_bd hj h1
  refine ⟨⟨h3.1, fun i => ?_⟩, fun i => Int.le_trans (h2 i) (h4 i)⟩
  have := h3.2 i
  unfold goJ
  omega
end Go.Proofs
end
