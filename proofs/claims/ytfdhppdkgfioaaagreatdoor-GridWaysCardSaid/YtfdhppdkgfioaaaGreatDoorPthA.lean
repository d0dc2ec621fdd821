import Derived.Test.YtfdhppdkgfioaaaGreatDoorCheckG
import Derived.Lib.Hide
import Derived.Test.YtfdhppdkgfioaaaGreatDoorGrpS
import Derived.Test.YtfdhppdkgfioaaaGreatDoorShrinkR
section
/- slices.Contains of cells, checkMember. -/
namespace Go.Proofs
open Go.RowKit
set_option maxHeartbeats 8000000
set_option maxRecDepth 1000000
theorem indexC_ok (l : List Cel) (v : Value) (x y z : Int) (w : World) (hl : Sl w v l) (hn : l.length ≤ 1000000) :
    Calls Tryz.prog 157 #[v, .agg #[.int .i64 x, .int .i64 y, .int .i64 z]] w fun e w' => (∃ r : Int, e = .returned (.int .i64 r) ∧ (0 ≤ r ↔ (x, y, z) ∈ l)) ∧ Below w.heap.size w w' := by
  obtain ⟨A, cap, rfl⟩ := hl.form
  obtain ⟨W, hW⟩ : ∃ W, W = w.alloc (.cells #[.int .i64 x, .int .i64 y, .int .i64 z] 24) := ⟨_, rfl⟩
  have hBW : Below w.heap.size w W := by subst hW; exact (Below.refl _ _).alloc (Nat.le_refl _) _
  have c0 : W.cell? ⟨w.heap.size, 0, none⟩ = some (.int .i64 x) := by subst hW; go_simp
  have c1 : W.cell? ⟨w.heap.size, 1, none⟩ = some (.int .i64 y) := by subst hW; go_simp
  have c2 : W.cell? ⟨w.heap.size, 2, none⟩ = some (.int .i64 z) := by subst hW; go_simp
  go_enter Tryz.func157, Tryz.ntmps157
  go_wp2
  rw [← hW]
  clear hW
  go_loopw [8] (fun i wr => ∃ k q : Nat, k ≤ l.length ∧ i = .int .i64 k ∧ wr = W.drewN q ∧ ∀ j, j < k → l[j]? ≠ some (x, y, z)) (fun i _ => l.length - (intOf i).toNat)
  case atStart => exact ⟨0, 0, Nat.zero_le _, rfl, rfl, fun j h => absurd h (Nat.not_lt_zero j)⟩
  case round =>
    obtain ⟨k, q, hk, rfl, rfl, hno⟩ := hrel
    rcases Nat.lt_or_eq_of_le hk with hkn | rfl
    · obtain ⟨b, o, ux, uy, uz, rfl, -, hb, hc, r0, r1, r2⟩ := hl.cells hkn
      have R0 := (hBW.cell (p := ⟨b, _, none⟩) hb).trans r0
      have R1 := (hBW.cell (p := ⟨b, _, none⟩) hb).trans r1
      have R2 := (hBW.cell (p := ⟨b, _, none⟩) hb).trans r2
      have hk0 : (0 : Int) ≤ k := by omega
      have hk1 : (k : Int) < l.length := by omega
      have heq := fun W => eqCell x y z ux uy uz W
      by_cases he : (x, y, z) = (ux, uy, uz)
      · have hbq : (x == ux && (y == uy && z == uz)) = true := by simpa using he
        rw [hbq] at heq
        rw [← he] at hc
        clear hbq hl he
        go_wp2_with fail
        go_quiet (fail)
        rename Nat => q1
        go_wp2
        go_ret
        exact ⟨⟨k, rfl, fun _ => List.mem_of_getElem? hc, fun _ => by omega⟩, ⟨hBW.os, hBW.tape, hBW.output, hBW.size, hBW.block⟩⟩
      · have hbq : (x == ux && (y == uy && z == uz)) = false := by
          simp only [Bool.and_eq_false_iff, beq_eq_false_iff_ne, ne_eq]
          simp only [Prod.mk.injEq] at he
          omega
        rw [hbq] at heq
        have hno' : ∀ j, j < k + 1 → l[j]? ≠ some (x, y, z) := fun j hj e => by
          rcases Nat.lt_or_eq_of_le (Nat.le_of_lt_succ hj) with h | rfl
          · exact hno j h e
          · rw [hc] at e
            exact he (Option.some.inj e).symm
        clear hbq hl he hno
        go_wp2_with fail
        go_quiet (fail)
        rename Nat => q1
        go_wp2
        exact ⟨⟨k + 1, _, hkn, rfl, rfl, hno'⟩, by simp [intOf]; omega⟩
    · have hB' : Below w.heap.size w (W.drewN q) := ⟨hBW.os, hBW.tape, hBW.output, hBW.size, hBW.block⟩
      have hnm : (x, y, z) ∉ l := fun h => by
        obtain ⟨i, hi⟩ := List.mem_iff_getElem?.1 h
        exact hno i (List.getElem?_eq_some_iff.1 hi).1 hi
      clear hl hno hBW
      go_wp2
      go_ret
      exact ⟨⟨-1, rfl, fun h => absurd h (by decide), fun h => absurd h hnm⟩, hB'⟩
theorem containsC_ok (l : List Cel) (v : Value) (x y z : Int) (w : World) (hl : Sl w v l) (hn : l.length ≤ 1000000) :
    Calls Tryz.prog 115 #[v, .agg #[.int .i64 x, .int .i64 y, .int .i64 z]] w fun e w' => e = .returned (.bool (decide ((x, y, z) ∈ l))) ∧ Below w.heap.size w w' := by
  have hB : Below w.heap.size w (w.alloc (.cells #[.int .i64 x, .int .i64 y, .int .i64 z] 24)) := (Below.refl _ _).alloc (Nat.le_refl _) _
  have hat := indexC_ok l v x y z _ (hl.below hB) hn
  obtain ⟨A, cap, rfl⟩ := hl.form
  clear hl
  go_enter Tryz.func115, Tryz.ntmps115
  go_wp2_with (go_at_call 157; refine hat.mono ?_; rintro e w2 ⟨⟨r, rfl, hr⟩, hB2⟩)
  go_ret
  refine ⟨?_, hB.trans (hB2.mono hB.size)⟩
  have e : decide (0 ≤ r) = decide ((x, y, z) ∈ l) := decide_eq_decide.2 hr
  rw [← e]
  rfl
/-- The error of a cell that shall be one of a set's. -/
def memE (l : List Cel) (c : Cel) : Int := if badC c then 3 else if c ∈ l then 0 else 10
theorem checkMember_ok (l : List Cel) (v : Value) (c : Cel) (w : World) (hl : Sl w v l) (hn : l.length ≤ 1000000) :
    Calls Tryz.prog 54 #[v, cellV c] w fun e w' => e = .returned (.int .i64 (memE l c)) ∧ Below w.heap.size w w' := by
  obtain ⟨x, y, z⟩ := c
  have hB : Below w.heap.size w (w.alloc (.cells #[.int .i64 x, .int .i64 y, .int .i64 z] 24)) := (Below.refl _ _).alloc (Nat.le_refl _) _
  have q1 := checkCellG x y z (w.alloc (.cells #[.int .i64 x, .int .i64 y, .int .i64 z] 24))
  have hkc := fun W (h : Below w.heap.size w W) => containsC_ok l v x y z W (hl.below h) hn
  obtain ⟨A, cap, rfl⟩ := hl.form
  obtain ⟨W, hW⟩ : ∃ W, W = w.alloc (.cells #[.int .i64 x, .int .i64 y, .int .i64 z] 24) := ⟨_, rfl⟩
  rw [← hW] at hB q1
  have c0 : W.cell? ⟨w.heap.size, 0, none⟩ = some (.int .i64 x) := by subst hW; go_simp
  have c1 : W.cell? ⟨w.heap.size, 1, none⟩ = some (.int .i64 y) := by subst hW; go_simp
  have c2 : W.cell? ⟨w.heap.size, 2, none⟩ = some (.int .i64 z) := by subst hW; go_simp
  have hlt : w.heap.size < W.heap.size := by subst hW; simp
  clear hl
  unfold memE cellV
  dsimp only
  cases hb : badC (x, y, z) with
  | true =>
    rw [hb] at q1
    simp only [if_true] at q1 ⊢
    clear hkc hb
    go_enter Tryz.func54, Tryz.ntmps54
    go_wp2_with (go_at_call 66; rw [← hW]; refine q1.mono ?_; rintro e w2 ⟨rfl, hB2⟩)
    go_ret
    exact ⟨rfl, hB.trans (hB2.mono hB.size)⟩
  | false =>
    rw [hb] at q1
    simp only [Bool.false_eq_true, if_false] at q1 ⊢
    by_cases hm : (x, y, z) ∈ l
    · have hm' : decide ((x, y, z) ∈ l) = true := decide_eq_true hm
      rw [hm'] at hkc
      rw [if_pos hm]
      clear hm hm' hb
      go_enter Tryz.func54, Tryz.ntmps54
      go_wp2_with (first
        | (go_at_call 66; rw [← hW]; refine q1.mono ?_; rintro e w2 ⟨rfl, hB2⟩; have d0 := (hB2.cell (p := ⟨w.heap.size, 0, none⟩) hlt).trans c0; have d1 := (hB2.cell (p := ⟨w.heap.size, 1, none⟩) hlt).trans c1; have d2 := (hB2.cell (p := ⟨w.heap.size, 2, none⟩) hlt).trans c2; have hX := hB.trans (hB2.mono hB.size); have q2 := hkc _ hX)
        | (go_at_call 115; refine q2.mono ?_; rintro e w3 ⟨rfl, hB3⟩))
      go_ret
      exact ⟨rfl, hX.trans (hB3.mono hX.size)⟩
    · have hm' : decide ((x, y, z) ∈ l) = false := decide_eq_false hm
      rw [hm'] at hkc
      rw [if_neg hm]
      clear hm hm' hb
      go_enter Tryz.func54, Tryz.ntmps54
      go_wp2_with (first
        | (go_at_call 66; rw [← hW]; refine q1.mono ?_; rintro e w2 ⟨rfl, hB2⟩; have d0 := (hB2.cell (p := ⟨w.heap.size, 0, none⟩) hlt).trans c0; have d1 := (hB2.cell (p := ⟨w.heap.size, 1, none⟩) hlt).trans c1; have d2 := (hB2.cell (p := ⟨w.heap.size, 2, none⟩) hlt).trans c2; have hX := hB.trans (hB2.mono hB.size); have q2 := hkc _ hX)
        | (go_at_call 115; refine q2.mono ?_; rintro e w3 ⟨rfl, hB3⟩))
      go_ret
      exact ⟨rfl, hX.trans (hB3.mono hX.size)⟩
end Go.Proofs
end

section
/- The reference's Path: the search, its state. -/
namespace Go.Proofs
open Go.RowKit
set_option maxHeartbeats 8000000
set_option maxRecDepth 1000000
theorem at_in {l : List Cel} {v : Value} {x y z : Int} {k : Nat} (w : World) (hl : Sl w v l) (hn : l.length ≤ 1000000) (hnd : l.Nodup) (hk : l[k]? = some (x, y, z)) :
    Calls Tryz.prog 22 #[v, .agg #[.int .i64 x, .int .i64 y, .int .i64 z]] w fun e w' => e = .returned (.int .i64 (k : Int)) ∧ Below w.heap.size w w' := by
  refine (at_ok l v x y z w hl hn).mono ?_
  rintro e w' ⟨r, rfl, h, hB⟩
  rcases h with ⟨-, h⟩ | ⟨k2, rfl, h2, -⟩
  · exact absurd (List.mem_of_getElem? hk) h
  · rw [nodup_at hnd h2 hk]
    exact ⟨rfl, hB⟩
theorem at_out {l : List Cel} {v : Value} {x y z : Int} (w : World) (hl : Sl w v l) (hn : l.length ≤ 1000000) (hm : (x, y, z) ∉ l) :
    Calls Tryz.prog 22 #[v, .agg #[.int .i64 x, .int .i64 y, .int .i64 z]] w fun e w' => e = .returned (.int .i64 (-1)) ∧ Below w.heap.size w w' := by
  refine (at_ok l v x y z w hl hn).mono ?_
  rintro e w' ⟨r, rfl, h, hB⟩
  rcases h with ⟨rfl, -⟩ | ⟨k2, -, h2, -⟩
  · exact ⟨rfl, hB⟩
  · exact absurd (List.mem_of_getElem? h2) hm
def intV (s : List Int) : List Value := s.map (.int .i64)
theorem intV_set (s : List Int) (k : Nat) (x : Int) : (intV s).set k (.int .i64 x) = intV (s.set k x) := by simp [intV]
theorem intV_at {s : List Int} {k : Nat} {x : Int} (h : s[k]? = some x) : (intV s)[k]? = some (.int .i64 x) := by simp [intV, h]
theorem flat_encC (l : List Cel) : flatF encC l = flatC l := rfl
theorem flat_one {w : World} {g : Nat} {c : Cel} {t : TypeId} (h : w.heap[g]? = some (.cells (encC c).toArray t (0, 0))) : FlatAt w g 0 (encC c) := fun j u hj => by
  rw [Nat.zero_add, cell_of_row w g j _ _ _ h]
  simpa using hj
theorem encC_len (c : Cel) : (encC c).length = 3 := rfl
theorem encC_one (c : Cel) : ∀ u ∈ encC c, u.oneCell' = true := by
  intro u hu
  simp [encC] at hu
  rcases hu with rfl | rfl | rfl <;> rfl
/-- append of one cell, and what it leaves as it was. -/
theorem run_append_cel (w : World) (ty : TypeId) (B : Nat) (v : Value) (l : List Cel) (c : Cel) (hown : Own w B v l) (hn : l.length ≤ 100000) (hB : B ≤ w.heap.size) :
    ∃ A2 c2 w', (Builtin.append_ #[22, 22] ty #[v, .slice (some ⟨w.heap.size, 0, none⟩) 1 1]).run Tryz.prog (w.alloc (.cells #[.int .i64 c.1, .int .i64 c.2.1, .int .i64 c.2.2] 24)) = .ok (.slice A2 (l.length + 1) c2) w' ∧ Own w' B (.slice A2 (l.length + 1) c2) (l ++ [c]) ∧ Below B w w' ∧ (∀ k, k < w.heap.size → v.ownBlock ≠ some k → w'.heap[k]? = w.heap[k]?) ∧ (∀ k, k < w.heap.size → v.ownBlock ≠ some k → (Value.slice A2 (l.length + 1) c2).ownBlock ≠ some k) := by
  have hW : Below w.heap.size w (w.alloc (.cells #[.int .i64 c.1, .int .i64 c.2.1, .int .i64 c.2.2] 24)) := (Below.refl _ _).alloc (Nat.le_refl _) _
  have hrow : (w.alloc (.cells #[.int .i64 c.1, .int .i64 c.2.1, .int .i64 c.2.2] 24)).heap[w.heap.size]? = some (.cells (encC c).toArray 24 (0, 0)) := World.alloc_heap_new w _
  have hlt := (hown.keep hW).lt
  obtain ⟨A2, c2, w', hap, hown2, hg, hat⟩ := run_append_one (P := Tryz.prog) (enc := encC) (s := 3) (w.alloc (.cells #[.int .i64 c.1, .int .i64 c.2.1, .int .i64 c.2.2] 24)) ty 22 24 B v l c encC_len encC_one (hown.keep hW) w.heap.size 1 24 (.agg #[.int .i64 0, .int .i64 0, .int .i64 0]) Tryz.underlying22 (by kernel_rfl) rfl (by decide) (by decide) (flat_one hrow) (by omega) (by simp; omega)
  refine ⟨A2, c2, w', hap, hown2, (hW.mono hB).grown hg (by simp; omega) fun k e => (hlt k e).1, fun k hk hne => ?_, fun k hk hne e => ?_⟩
  · exact (hg.block k (by simp; omega) fun e => hne e.symm).trans (hW.block k hk)
  · rcases hat with h | h
    · rw [h] at e
      exact hne e
    · rw [h, World.size_alloc] at e
      injection e with e
      omega
/-- The state of the search: V the world at its beginning, g the row of steps. -/
structure PathR (V : World) (g : Nat) (l : List Cel) (b : Cel) (i j : Nat) (st : Cel → Option Nat) (s : List Int) (vq : Value) (q : List Cel) (W : World) : Prop where
  row : RowBl W 3 g (intV s)
  own : Own W V.heap.size vq q
  keep : Keep1 V.heap.size g V W
  str : StR l s st
  bfs : BfsI nearL (· ∈ l) b q st i j
  bd : ∀ c n, st c = some n → n < q.length
theorem PathR.below {V W W' : World} {g i j : Nat} {l q : List Cel} {b : Cel} {st : Cel → Option Nat} {s : List Int} {vq : Value} (h : PathR V g l b i j st s vq q W) (hb : Below W.heap.size W W') : PathR V g l b i j st s vq q W' :=
  ⟨h.row.below hb, h.own.keep hb, h.keep.trans ⟨hb.os, hb.tape, hb.output, hb.size, fun k h1 _ => hb.block k (by have := h.keep.size; omega)⟩, h.str, h.bfs, h.bd⟩
theorem PathR.len {V W : World} {g i j : Nat} {l q : List Cel} {b : Cel} {st : Cel → Option Nat} {s : List Int} {vq : Value} (h : PathR V g l b i j st s vq q W) : q.length ≤ l.length := nodup_len h.bfs.nodup h.bfs.mem
end Go.Proofs
end
