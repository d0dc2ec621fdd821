import Derived.Test.YtfdhppdkgfioaaaGreatDoorFlat
import Derived.Test.YtfdhppdkgfioaaaGreatDoorMoved
import Derived.Test.YtfdhppdkgfioaaaGreatDoorKeep1
import Derived.Test.YtfdhppdkgfioaaaGreatDoorGoodT
import Derived.Test.YtfdhppdkgfioaaaGreatDoorSl
import Derived.Test.YtfdhppdkgfioaaaGreatDoorMapC
section
/- Lists of lists of cells. -/
namespace Go.Proofs
open Go.RowKit
set_option maxHeartbeats 8000000
set_option maxRecDepth 1000000
theorem Keep1.mono {B B' b : Nat} {W W' : World} (hk : Keep1 B b W W') (h : B' ≤ B) : Keep1 B' b W W' := ⟨hk.os, hk.tape, hk.output, hk.size, fun k h1 h2 => hk.block k (by omega) h2⟩
abbrev Sli := Option Addr × Nat × Nat
def encS (s : Sli) : List Value := [.slice s.1 s.2.1 s.2.2]
theorem encS_len (s : Sli) : (encS s).length = 1 := rfl
theorem encS_one (s : Sli) : ∀ u ∈ encS s, u.oneCell' = true := by
  intro u hu
  simp [encS] at hu
  subst hu
  rfl
/-- A value that reads as a list of lists of cells. -/
def LsC (w : World) (v : Value) (P : List (List Cel)) : Prop := ∃ ss : List Sli, SlF encS w v ss ∧ ss.length = P.length ∧ ∀ (i : Nat) (s : Sli) (p : List Cel), ss[i]? = some s → P[i]? = some p → s.2.1 = p.length ∧ Sl w (.slice s.1 s.2.1 s.2.2) p
/-- A list whose row lies from B on. -/
def LayC (w : World) (B : Nat) (v : Value) (p : List Cel) : Prop := Sl w v p ∧ ∀ g, v.ownBlock = some g → B ≤ g ∧ g < w.heap.size ∧ ∃ arr fl, w.heap[g]? = some (.cells arr 24 fl)
theorem Own.lay {w : World} {B : Nat} {v : Value} {p : List Cel} (h : Own w B v p) : LayC w B v p := ⟨h.sl, fun g e => by
  refine ⟨(h.lt g e).1, (h.lt g e).2, ?_⟩
  rcases h.2 with ⟨h1, _⟩ | ⟨g', cap, cur, h1, _, hg, _⟩
  · rw [h1] at e; cases e
  · rw [h1] at e
    obtain rfl : g' = g := by simpa [Value.ownBlock] using e
    exact ⟨_, _, hg⟩⟩
theorem Filled.lay {w : World} {B b : Nat} {p : List Cel} (h : Filled w b p.length 24 p) (hb : B ≤ b) : LayC w B (.slice (some ⟨b, 0, none⟩) p.length p.length) p := by
  refine ⟨Sl.row h.row h.lt, fun g e => ?_⟩
  obtain rfl : b = g := by simpa [Value.ownBlock] using e
  obtain ⟨arr, h1, _⟩ := h
  exact ⟨hb, (Array.getElem?_eq_some_iff.1 h1).1, arr, _, h1⟩
theorem LayC.keepB {w w' : World} {B : Nat} {v : Value} {p : List Cel} (h : LayC w B v p) (hs : w.heap.size ≤ w'.heap.size) (hb : ∀ g, v.ownBlock = some g → w'.heap[g]? = w.heap[g]?) : LayC w' B v p := by
  obtain ⟨h1, h2⟩ := h
  refine ⟨?_, fun g e => ?_⟩
  · rcases h1 with h1 | ⟨ad, cap, rfl, h1⟩
    · exact .inl h1
    · have hk := hb ad.block rfl
      refine .inr ⟨ad, cap, rfl, fun h0 => ?_⟩
      obtain ⟨g1, g2, g3⟩ := h1 h0
      refine ⟨g1, Nat.lt_of_lt_of_le g2 hs, fun i c hi => ?_⟩
      obtain ⟨r0, r1, r2⟩ := g3 i c hi
      exact ⟨(World.cell?_of_block (a := ⟨ad.block, _, none⟩) hk).trans r0, (World.cell?_of_block (a := ⟨ad.block, _, none⟩) hk).trans r1, (World.cell?_of_block (a := ⟨ad.block, _, none⟩) hk).trans r2⟩
  · obtain ⟨g1, g2, arr, fl, g3⟩ := h2 g e
    exact ⟨g1, Nat.lt_of_lt_of_le g2 hs, arr, fl, (hb g e).trans g3⟩
theorem LayC.keep {w w' : World} {B : Nat} {v : Value} {p : List Cel} (h : LayC w B v p) (hb : Below w.heap.size w w') : LayC w' B v p := h.keepB hb.size fun g e => hb.block g (h.2 g e).2.1
theorem LayC.mono {w : World} {B B' : Nat} {v : Value} {p : List Cel} (h : LayC w B v p) (hB : B' ≤ B) : LayC w B' v p := ⟨h.1, fun g e => ⟨Nat.le_trans hB (h.2 g e).1, (h.2 g e).2⟩⟩
/-- One that the call has made: all of it lies from B on. -/
def OwnLs (w : World) (B : Nat) (v : Value) (P : List (List Cel)) : Prop := ∃ ss : List Sli, OwnF encS 1 22 w B v ss ∧ ss.length = P.length ∧ ∀ (i : Nat) (s : Sli) (p : List Cel), ss[i]? = some s → P[i]? = some p → LayC w B (.slice s.1 s.2.1 s.2.2) p
theorem LsC.below {w w' : World} {v : Value} {P : List (List Cel)} (h : LsC w v P) (hb : Below w.heap.size w w') : LsC w' v P := by
  obtain ⟨ss, h1, h2, h3⟩ := h
  exact ⟨ss, h1.below hb, h2, fun i s p a b => ⟨(h3 i s p a b).1, (h3 i s p a b).2.below hb⟩⟩
theorem LsC.form {w : World} {v : Value} {P : List (List Cel)} (h : LsC w v P) : ∃ (A : Option Addr) (cap : Nat), v = .slice A P.length cap := by
  obtain ⟨ss, h1, h2, _⟩ := h
  rw [← h2]
  exact h1.form
theorem LsC.cells {w : World} {A : Option Addr} {n cap : Nat} {P : List (List Cel)} (h : LsC w (.slice A n cap) P) {k : Nat} {p : List Cel} (hk : P[k]? = some p) :
    ∃ b o Ax cx, A = some ⟨b, o, none⟩ ∧ n = P.length ∧ b < w.heap.size ∧ w.cell? ⟨b, o + k, none⟩ = some (.slice Ax p.length cx) ∧ Sl w (.slice Ax p.length cx) p := by
  obtain ⟨ss, h1, h2, h3⟩ := h
  obtain ⟨s, hs⟩ : ∃ s, ss[k]? = some s := ⟨_, List.getElem?_eq_getElem (by rw [h2]; exact (List.getElem?_eq_some_iff.1 hk).1)⟩
  obtain ⟨b, o, e, hn, hb, hc⟩ := h1.cells encS_len hs
  obtain ⟨e2, h4⟩ := h3 k s p hs hk
  obtain ⟨A1, n1, c1⟩ := s
  obtain rfl : n1 = p.length := e2
  refine ⟨b, o, A1, c1, e, hn.trans h2, hb, ?_, h4⟩
  have := hc 0 _ rfl
  rw [Nat.mul_one, Nat.add_zero] at this
  exact this
theorem LsC.nil (w : World) : LsC w (.slice none 0 0) [] := ⟨[], .inl ⟨rfl, rfl⟩, rfl, fun i s p h => by simp at h⟩
theorem sl_len {w : World} {A : Option Addr} {n c : Nat} {p : List Cel} (h : Sl w (.slice A n c) p) : n = p.length := by
  obtain ⟨A2, c2, e⟩ := h.form
  injection e
theorem OwnLs.sl {w : World} {B : Nat} {v : Value} {P : List (List Cel)} (h : OwnLs w B v P) : LsC w v P := by
  obtain ⟨ss, h1, h2, h3⟩ := h
  exact ⟨ss, h1.sl encS_len, h2, fun i s p a b => ⟨sl_len (h3 i s p a b).1, (h3 i s p a b).1⟩⟩
theorem OwnLs.nil (w : World) (B : Nat) : OwnLs w B (.slice none 0 0) [] := ⟨[], OwnF.nil _ _ _, rfl, fun i s p h => by simp at h⟩
theorem OwnLs.keep {w w' : World} {B : Nat} {v : Value} {P : List (List Cel)} (h : OwnLs w B v P) (hb : Below w.heap.size w w') : OwnLs w' B v P := by
  obtain ⟨ss, h1, h2, h3⟩ := h
  exact ⟨ss, h1.keep hb, h2, fun i s p a b => (h3 i s p a b).keep hb⟩
/-- All but a block that lies ahead of it is as it was. -/
theorem OwnLs.keep1 {w w' : World} {B g : Nat} {v : Value} {P : List (List Cel)} (h : OwnLs w B v P) (hk : Keep1 w.heap.size g w w') (hg : g < B) : OwnLs w' B v P := by
  obtain ⟨ss, h1, h2, h3⟩ := h
  refine ⟨ss, h1.keepB fun q e => ?_, h2, fun i s p a b => (h3 i s p a b).keepB hk.size fun q e => ?_⟩
  · have := h1.lt q e
    exact hk.block q this.2 (by omega)
  · have := (h3 i s p a b).2 q e
    exact hk.block q this.2.1 (by omega)
theorem OwnLs.mono {w : World} {B B' : Nat} {v : Value} {P : List (List Cel)} (h : OwnLs w B v P) (hB : B' ≤ B) : OwnLs w B' v P := by
  obtain ⟨ss, h1, h2, h3⟩ := h
  exact ⟨ss, h1.lower hB, h2, fun i s p a b => (h3 i s p a b).mono hB⟩
theorem flatS_row {w : World} {g : Nat} {s : Sli} {t : TypeId} (h : w.heap[g]? = some (.cells (encS s).toArray t (0, 0))) : FlatAt w g 0 (encS s) := fun j u hj => by
  rw [Nat.zero_add, cell_of_row w g j _ _ _ h]
  simpa using hj
/-- append of one list. -/
theorem run_append_list (w : World) (ty : TypeId) (B : Nat) (v : Value) (P : List (List Cel)) (A : Option Addr) (n c : Nat) (p : List Cel) (hown : OwnLs w B v P) (hp : LayC w B (.slice A n c) p) (hn : P.length ≤ 100000) (hB : B ≤ w.heap.size) :
    ∃ A2 c2 w', (Builtin.append_ #[27, 27] ty #[v, .slice (some ⟨w.heap.size, 0, none⟩) 1 1]).run Tryz.prog (w.alloc (.cells #[.slice A n c] 22)) = .ok (.slice A2 (P.length + 1) c2) w' ∧ OwnLs w' B (.slice A2 (P.length + 1) c2) (P ++ [p]) ∧ Below B w w' := by
  obtain ⟨ss, h1, h2, h3⟩ := hown
  have hW : Below w.heap.size w (w.alloc (.cells #[.slice A n c] 22)) := (Below.refl _ _).alloc (Nat.le_refl _) _
  have hrow : (w.alloc (.cells #[.slice A n c] 22)).heap[w.heap.size]? = some (.cells (encS (A, n, c)).toArray 22 (0, 0)) := World.alloc_heap_new w _
  obtain ⟨A2, c2, w', hap, hown2, hg, hat⟩ := run_append_one (P := Tryz.prog) (w.alloc (.cells #[.slice A n c] 22)) ty 27 22 B v ss (A, n, c) encS_len encS_one (h1.keep hW) w.heap.size 1 24 (.slice none 0 0) Tryz.underlying27 (by kernel_rfl) rfl (by decide) (by decide) (flatS_row hrow) (by rw [h2]; omega) (by simp; omega)
  have hlt := (h1.keep hW).lt
  rw [h2] at hap hown2
  have hB2 : Below B w w' := ((hW.mono hB).grown hg (by simp; omega) fun k e => (hlt k e).1)
  have hsame : ∀ (u : Value) (q : List Cel), LayC w B u q → LayC w' B u q := fun u q hq => by
    have hq1 := hq.keep hW
    refine hq1.keepB hg.size fun k e => hg.block k (hq1.2 k e).2.1 fun e2 => ?_
    -- the row of lists is no row of cells
    rcases (h1.keep hW).2 with ⟨e3, _⟩ | ⟨g2, cap2, cur2, e3, _, hg2, _⟩
    · rw [e3] at e2; cases e2
    · rw [e3] at e2
      obtain rfl : g2 = k := by simpa [Value.ownBlock] using e2.symm
      obtain ⟨_, _, arr, fl, hg4⟩ := hq1.2 g2 e
      rw [hg2] at hg4
      injection hg4 with hg4
      injection hg4 with _ hg4 _
      exact absurd hg4 (by decide)
  refine ⟨A2, c2, w', hap, ⟨ss ++ [(A, n, c)], hown2, by simp [h2], fun i s q hs hq => ?_⟩, hB2⟩
  by_cases hi : i < ss.length
  · rw [List.getElem?_append_left hi] at hs
    rw [List.getElem?_append_left (by omega)] at hq
    exact hsame _ _ (h3 i s q hs hq)
  · have hi2 : i = ss.length := by
      have := (List.getElem?_eq_some_iff.1 hs).1
      simp at this
      omega
    subst hi2
    rw [List.getElem?_append_right (Nat.le_refl _), Nat.sub_self] at hs
    rw [h2, List.getElem?_append_right (Nat.le_refl _), Nat.sub_self] at hq
    obtain rfl := Option.some.inj hs
    obtain rfl := Option.some.inj hq
    exact hsame _ _ hp
end Go.Proofs
end

section
/- A part of what Dist had: distI, distance_ok. -/
namespace Go.Proofs
open Go.RowKit
set_option maxHeartbeats 8000000
set_option maxRecDepth 1000000
def distI (a b : Cel) : Int := max (a.1 - b.1) (b.1 - a.1) + max (a.2.1 - b.2.1) (b.2.1 - a.2.1) + max (a.2.2 - b.2.2) (b.2.2 - a.2.2)
theorem distance_ok (a b : Cel) (ha : Near a 3000) (hb : Near b 3000) (w : World) :
    Calls Tryz.prog 107 #[cellV a, cellV b] w fun e w' => e = .returned (.int .i64 (distI a b)) ∧ Below w.heap.size w w' := by
  obtain ⟨x, y, z⟩ := a
  obtain ⟨x', y', z'⟩ := b
  unfold Near at ha hb
  unfold distI cellV
  dsimp only at ha hb ⊢
  have a1 := wrapS (n := x - x') (by omega)
  have a2 := wrapS (n := x' - x) (by omega)
  have b1 := wrapS (n := y - y') (by omega)
  have b2 := wrapS (n := y' - y) (by omega)
  have c1 := wrapS (n := z - z') (by omega)
  have c2 := wrapS (n := z' - z) (by omega)
  have d1 := wrapS (n := max (x - x') (x' - x) + max (y - y') (y' - y)) (by omega)
  have d2 := wrapS (n := max (x - x') (x' - x) + max (y - y') (y' - y) + max (z - z') (z' - z)) (by omega)
  clear ha hb
  go_enter Tryz.func107, Tryz.ntmps107
  go_wp2
  go_ret
  exact ⟨rfl, ((Below.refl _ _).alloc (Nat.le_refl _) _).alloc (by simp) _⟩
end Go.Proofs
end

section
/- A part of what GrowR had: growN, mem_step, near_grow, near_step. -/
namespace Go.Proofs
open Go.RowKit
set_option maxHeartbeats 8000000
set_option maxRecDepth 1000000
/-- A set grown by some steps, as a list with repetitions. -/
def growN : Nat → List Cel → List Cel
  | 0, l => l
  | n + 1, l => (growN n l).flatMap fun c => c :: nearL c
theorem mem_step {L : List Cel} {c : Cel} : (c ∈ L.flatMap fun c => c :: nearL c) ↔ c ∈ L ∨ ∃ d ∈ L, c ∈ nearL d := by
  rw [List.mem_flatMap]
  constructor
  · rintro ⟨d, hd, h⟩
    rcases List.mem_cons.1 h with rfl | h
    · exact .inl hd
    · exact .inr ⟨d, hd, h⟩
  · rintro (h | ⟨d, hd, h⟩)
    · exact ⟨c, h, List.mem_cons_self ..⟩
    · exact ⟨d, hd, List.mem_cons_of_mem _ h⟩
theorem near_step {c d : Cel} {b : Int} (hc : Near c b) (hd : d ∈ nearL c) : Near d (b + 1) := by
  obtain ⟨x, y, z⟩ := c
  unfold nearL at hd
  unfold Near at hc ⊢
  simp only [List.mem_cons, List.mem_nil_iff, or_false] at hd
  rcases hd with rfl | rfl | rfl | rfl | rfl | rfl <;> (dsimp only at hc ⊢; omega)
theorem near_grow {l : List Cel} {b : Int} (h : ∀ c ∈ l, Near c b) : ∀ n : Nat, ∀ c ∈ growN n l, Near c (b + n)
  | 0, c, hc => by
    have := h c hc
    rwa [show b + ((0 : Nat) : Int) = b by omega]
  | n + 1, c, hc => by
    rcases mem_step.1 hc with hc | ⟨d, hd, hc⟩
    · exact (near_grow h n c hc).mono (by omega)
    · have := near_step (near_grow h n d hd) hc
      rwa [show b + ((n + 1 : Nat) : Int) = b + n + 1 by omega]
end Go.Proofs
end

section
/- A part of what GrK had: dist_near, grow_dist, grow_small, offs, offs_len, offs_mem. -/
namespace Go.Proofs
open Go.RowKit
set_option maxHeartbeats 8000000
set_option maxRecDepth 1000000
/-- The cells that are at most three steps from the middle. -/
def offs : List Cel := ((List.range 343).map fun t => (((t / 49 : Nat) : Int) - 3, ((t / 7 % 7 : Nat) : Int) - 3, ((t % 7 : Nat) : Int) - 3)).filter fun o => decide (max o.1 (-o.1) + max o.2.1 (-o.2.1) + max o.2.2 (-o.2.2) ≤ 3)
theorem offs_len : offs.length = 63 := by decide +kernel
theorem offs_mem {x y z : Int} (h : max x (-x) + max y (-y) + max z (-z) ≤ 3) : (x, y, z) ∈ offs := by
  obtain ⟨a, ha⟩ : ∃ a : Nat, x = (a : Int) - 3 := ⟨(x + 3).toNat, by omega⟩
  obtain ⟨b, hb⟩ : ∃ b : Nat, y = (b : Int) - 3 := ⟨(y + 3).toNat, by omega⟩
  obtain ⟨c, hc⟩ : ∃ c : Nat, z = (c : Int) - 3 := ⟨(z + 3).toNat, by omega⟩
  subst ha hb hc
  have ha : a ≤ 6 := by omega
  have hb : b ≤ 6 := by omega
  have hc : c ≤ 6 := by omega
  refine List.mem_filter.2 ⟨List.mem_map.2 ⟨a * 49 + b * 7 + c, List.mem_range.2 (by omega), ?_⟩, decide_eq_true h⟩
  have e1 : (a * 49 + b * 7 + c) / 49 = a := by omega
  have e2 : (a * 49 + b * 7 + c) / 7 % 7 = b := by omega
  have e3 : (a * 49 + b * 7 + c) % 7 = c := by omega
  rw [e1, e2, e3]
theorem dist_near {p c d : Cel} {n : Int} (h : distI p c ≤ n) (hd : d ∈ nearL c) : distI p d ≤ n + 1 := by
  obtain ⟨x, y, z⟩ := c
  unfold nearL at hd
  unfold distI at h ⊢
  simp only [List.mem_cons, List.mem_nil_iff, or_false] at hd
  rcases hd with rfl | rfl | rfl | rfl | rfl | rfl <;> (dsimp only at h ⊢; omega)
theorem grow_dist {l : List Cel} : ∀ (n : Nat) (c : Cel), c ∈ growN n l → ∃ p ∈ l, distI p c ≤ n
  | 0, c, hc => ⟨c, hc, by unfold distI; omega⟩
  | n + 1, c, hc => by
    rcases mem_step.1 hc with hc | ⟨d, hd, hc⟩
    · obtain ⟨p, hp, h⟩ := grow_dist n c hc
      exact ⟨p, hp, by omega⟩
    · obtain ⟨p, hp, h⟩ := grow_dist n d hd
      exact ⟨p, hp, by have := dist_near h hc; omega⟩
theorem grow_small {l : List Cel} (hl : l.length ≤ 40) {i : Nat} (hi : i ≤ 3) {S : List Cel} (hnd : S.Nodup) (hS : ∀ c ∈ S, c ∈ growN i l) : S.length ≤ 4000 := by
  have hsub : ∀ c ∈ S, c ∈ l.flatMap fun p => offs.map fun o => (p.1 + o.1, p.2.1 + o.2.1, p.2.2 + o.2.2) := fun c hc => by
    obtain ⟨p, hp, h⟩ := grow_dist i c (hS c hc)
    refine List.mem_flatMap.2 ⟨p, hp, List.mem_map.2 ⟨(c.1 - p.1, c.2.1 - p.2.1, c.2.2 - p.2.2), offs_mem ?_, ?_⟩⟩
    · unfold distI at h
      omega
    · obtain ⟨c1, c2, c3⟩ := c
      simp only [Prod.mk.injEq]
      omega
  have h1 := nodup_len hnd hsub
  have h2 : ∀ m : List Cel, (m.flatMap fun p => offs.map fun o => (p.1 + o.1, p.2.1 + o.2.1, p.2.2 + o.2.2)).length = m.length * 63 := fun m => by
    induction m with
    | nil => rfl
    | cons c m ih => rw [List.flatMap_cons, List.length_append, ih, List.length_map, offs_len]; simp; omega
  rw [h2] at h1
  omega
end Go.Proofs
end

section
/- setOf: a set of the cells of a list. -/
namespace Go.Proofs
open Go.RowKit
set_option maxHeartbeats 8000000
set_option maxRecDepth 1000000
def setL (l : List Cel) : List Cel := l.foldl (fun m c => addC c m) []
theorem fold_addC : ∀ (l m : List Cel), (∀ c, c ∈ l.foldl (fun m c => addC c m) m ↔ c ∈ l ∨ c ∈ m)
  | [], m, c => by simp
  | d :: l, m, c => by
    rw [List.foldl_cons, fold_addC l (addC d m) c, mem_addC, List.mem_cons]
    constructor
    · rintro (h | h | h)
      · exact .inl (.inr h)
      · exact .inl (.inl h)
      · exact .inr h
    · rintro ((h | h) | h)
      · exact .inr (.inl h)
      · exact .inl h
      · exact .inr (.inr h)
theorem mem_setL {l : List Cel} {c : Cel} : c ∈ setL l ↔ c ∈ l := by
  unfold setL
  rw [fold_addC]
  simp
theorem fold_nodup : ∀ (l m : List Cel), m.Nodup → (l.foldl (fun m c => addC c m) m).Nodup
  | [], _, h => h
  | d :: l, m, h => fold_nodup l (addC d m) (nodup_addC h)
theorem nodup_setL (l : List Cel) : (setL l).Nodup := fold_nodup l [] List.nodup_nil
theorem setL_take {l : List Cel} {k : Nat} {c : Cel} (hc : l[k]? = some c) : setL (l.take (k + 1)) = addC c (setL (l.take k)) := by
  unfold setL
  rw [List.take_add_one, hc]
  simp
theorem setL_len (l : List Cel) : (setL l).length ≤ l.length := nodup_len (nodup_setL l) fun _ h => mem_setL.1 h
theorem run_makeMap_some (t : TypeId) (n : Nat) (w : World) (ht : ∃ k e, Tryz.prog.underlying t = some (.map k e)) : (Instr.makeMap t (some (.int .i64 n))).run Tryz.prog w = .ok (.map (some w.heap.size)) (w.alloc (.map #[] 0)) := by
  obtain ⟨k, e, ht⟩ := ht
  simp [Instr.makeMap, run_underlying ht, asInt, Result.andThen]
  rfl
theorem setOf_ok (l : List Cel) (v : Value) (w : World) (hl : Sl w v l) (hn : l.length ≤ maxLen) :
    Calls Tryz.prog 103 #[v] w fun e w' => ∃ b, e = .returned (.map (some b)) ∧ w.heap.size ≤ b ∧ CSet w' b (setL l) ∧ Below w.heap.size w w' := by
  unfold maxLen at hn
  obtain ⟨A, cap, rfl⟩ := hl.form
  have hmk := run_makeMap_some 157 l.length w ⟨_, _, Tryz.underlying157⟩
  have hmade : CSet (w.alloc (.map #[] 0)) w.heap.size (setL (l.take 0)) := by
    have := CMap.made w
    simpa [setL, CSet] using this
  have hB0 : Below w.heap.size w (w.alloc (.map #[] 0)) := (Below.refl _ _).alloc (Nat.le_refl _) _
  go_enter Tryz.func103, Tryz.ntmps103
  go_wp2
  go_loopw [11] (fun i wr => ∃ k : Nat, k ≤ l.length ∧ i = .int .i64 k ∧ CSet wr w.heap.size (setL (l.take k)) ∧ Below w.heap.size w wr) (fun i _ => l.length - (intOf i).toNat)
  case atStart => exact ⟨0, Nat.zero_le _, rfl, hmade, hB0⟩
  case round =>
    obtain ⟨k, hk, rfl, hset, hB⟩ := hrel
    rename World => w1
    rcases Nat.lt_or_eq_of_le hk with hkn | rfl
    · obtain ⟨b, o, x, y, z, rfl, -, hb, hc, r0, r1, r2⟩ := hl.cells hkn
      have hsz := hB.size
      rw [← hB.cell (p := ⟨b, _, none⟩) hb] at r0 r1 r2
      have hset1 := hset.alloc (.cells #[.int .i64 x, .int .i64 y, .int .i64 z] 24)
      have HT := Lib.hid (setL_take hc)
      clear hl hset hmk hmade hB0
      go_wp2_with (at_mapUpdate; refine wpList_update_set rfl _ _ _ _ rfl Tryz.underlying157 w.heap.size _ rfl hset1 (x, y, z) rfl rfl ?_; intro w2 hset2 hg2)
      refine ⟨⟨k + 1, hkn, rfl, by rw [HT.out]; exact hset2, (hB.alloc hsz _).grown hg2 (by simp; omega) (fun j e => by cases e; exact Nat.le_refl _)⟩, by simp [intOf]; omega⟩
    · rw [List.take_length] at hset
      clear hl hmk hmade hB0
      go_wp2
      go_ret
      exact ⟨_, rfl, Nat.le_refl _, hset, hB⟩
end Go.Proofs
end
