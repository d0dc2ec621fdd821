import Derived.Test.YtfdhppdkgfioaaaGreatDoorMoved
import Derived.Test.YtfdhppdkgfioaaaGreatDoorGoodT
import Derived.RangeFuncNested
import Derived.RangeFuncBound
import Derived.RangeFuncCalls
import Derived.RangeFuncLeaves
import Derived.RangeFuncBox
import Derived.Shelf.Abstract
import Derived.Shelf.RegionOpen
import Derived.WalkKit
import Derived.OwnWalkIn
import Derived.TacticsInMore
import Derived.LoopNIn
import Derived.LoopIn
import Derived.Test.YtfdhppdkgfioaaaGreatDoorCells
import Derived.Laws.StructEq
import Derived.WideKeyRuns
import Derived.MapKept
import Derived.Maps.OwnOps
section
/- neighbours: the iterator over a cell's six neighbours. -/
namespace Go.Proofs
open Go.RowKit Go.Shelf
set_option maxHeartbeats 8000000
set_option maxRecDepth 1000000
attribute [local go_sem] Oper.semAt_some
/-- A cell's neighbours, ascending. -/
def nearL (c : Cel) : List Cel := [(c.1 - 1, c.2.1, c.2.2), (c.1, c.2.1 - 1, c.2.2), (c.1, c.2.1, c.2.2 - 1), (c.1, c.2.1, c.2.2 + 1), (c.1, c.2.1 + 1, c.2.2), (c.1 + 1, c.2.1, c.2.2)]
def boxC (c : Cel) : Array Value := #[.int .i64 c.1, .int .i64 c.2.1, .int .i64 c.2.2]
def SameAt (B : Nat) (W W' : World) : Prop := W'.heap[B]? = W.heap[B]?
theorem neighbours1_in (F : Fence) (n : Nat) (h6 : F.fn 114) (hro : F.round = none) (hn : 1 ≤ n) (l Bn : Nat) (c : Cel) (hc : Near c 2000) (Kp : World → World → Prop) (hKb : ∀ A B, Kp A B → B.heap[Bn]? = A.heap[Bn]?) (J Jx : List Cel → World → Prop)
    (hY : ∀ pre x W, J pre W → pre.length < (nearL c).length → YieldAt F (n - 1) Tryz.prog l #[cellV x] W fun e W' =>
      (e = .returned (.bool true) ∧ J (pre ++ [x]) W' ∧ Kp W W') ∨ (e = .returned (.bool false) ∧ Jx (pre ++ [x]) W'))
    (W : World) (hW : W.heap[Bn]? = some (.cells (boxC c) 24 (0, 0))) (h0 : J [] W) :
    CallsIn F n Tryz.prog 114 #[.func (.yield l) #[] #[], .pointer (some ⟨Bn, 0, none⟩)] W fun e W' => (∃ v, e = .returned v) ∧
      ((∃ ys, ys = nearL c ∧ J ys W') ∨ (∃ pre, pre <+: nearL c ∧ Jx pre W')) := by
  obtain ⟨x, y, z⟩ := c
  unfold Near at hc
  unfold boxC at hW
  dsimp only at hc hW
  have hL : nearL (x, y, z) = [(x - 1, y, z), (x, y - 1, z), (x, y, z - 1), (x, y, z + 1), (x, y + 1, z), (x + 1, y, z)] := rfl
  rw [hL] at hY ⊢
  clear hL
  have hcell : ∀ W' : World, SameAt Bn W W' → W'.cell? ⟨Bn, 0, none⟩ = some (.int .i64 x) ∧ W'.cell? ⟨Bn, 1, none⟩ = some (.int .i64 y) ∧ W'.cell? ⟨Bn, 2, none⟩ = some (.int .i64 z) := fun W' h => by
    have zl := fun j => cell_of_row W' Bn j _ _ _ (Eq.trans h hW)
    have z0 := zl 0
    have z1 := zl 1
    have z2 := zl 2
    simp at z0 z1 z2
    exact ⟨z0, z1, z2⟩
  clear hW
  have a1 := wrapS (n := x - 1) (by omega)
  have a2 := wrapS (n := y - 1) (by omega)
  have a3 := wrapS (n := z - 1) (by omega)
  have a4 := wrapS (n := z + 1) (by omega)
  have a5 := wrapS (n := y + 1) (by omega)
  have a6 := wrapS (n := x + 1) (by omega)
  have hB : SameAt Bn W W := rfl
  obtain ⟨d0, d1, d2⟩ := hcell W hB
  obtain ⟨fn, tmps, assign, body, hyd, hR⟩ := hY [] (x - 1, y, z) W h0 (by simp)
  unfold cellV at hyd
  dsimp only at hyd
  refine callsIn_of_wp Tryz.func114 rfl h6 ?_ hro
  simp only [Tryz.ntmps114, List.size_toArray, List.length_cons, List.length_nil, Nat.reduceAdd, Nat.reduceSub, Array.replicate_succ, Array.replicate_zero, List.push_toArray, List.append_toArray, List.nil_append, List.cons_append]
  gi_wp2
  refine hR.mono ?_
  rintro e w1 (⟨rfl, hJ, hk⟩ | ⟨rfl, hJx⟩)
  rotate_left
  · clear d0 d1 d2 hyd hR
    gi_wp2
    refine ⟨fun _ h => (by cases h), ?_⟩
    gi_wp2
    go_end0
    exact ⟨⟨_, rfl⟩, .inr ⟨[(x - 1, y, z)], ⟨[(x, y - 1, z), (x, y, z - 1), (x, y, z + 1), (x, y + 1, z), (x + 1, y, z)], rfl⟩, hJx⟩⟩
  replace hB : SameAt Bn _ _ := Eq.trans (hKb _ _ hk) hB
  clear d0 d1 d2 hyd hR hk
  obtain ⟨d0, d1, d2⟩ := hcell w1 hB
  obtain ⟨fn, tmps, assign, body, hyd, hR⟩ := hY [(x - 1, y, z)] (x, y - 1, z) w1 hJ (by simp)
  unfold cellV at hyd
  dsimp only at hyd
  gi_wp2
  refine hR.mono ?_
  rintro e w2 (⟨rfl, hJ, hk⟩ | ⟨rfl, hJx⟩)
  rotate_left
  · clear d0 d1 d2 hyd hR
    gi_wp2
    refine ⟨fun _ h => (by cases h), ?_⟩
    gi_wp2
    go_end0
    exact ⟨⟨_, rfl⟩, .inr ⟨[(x - 1, y, z), (x, y - 1, z)], ⟨[(x, y, z - 1), (x, y, z + 1), (x, y + 1, z), (x + 1, y, z)], rfl⟩, hJx⟩⟩
  replace hB : SameAt Bn _ _ := Eq.trans (hKb _ _ hk) hB
  clear d0 d1 d2 hyd hR hk
  obtain ⟨d0, d1, d2⟩ := hcell w2 hB
  obtain ⟨fn, tmps, assign, body, hyd, hR⟩ := hY [(x - 1, y, z), (x, y - 1, z)] (x, y, z - 1) w2 hJ (by simp)
  unfold cellV at hyd
  dsimp only at hyd
  gi_wp2
  refine hR.mono ?_
  rintro e w3 (⟨rfl, hJ, hk⟩ | ⟨rfl, hJx⟩)
  rotate_left
  · clear d0 d1 d2 hyd hR
    gi_wp2
    refine ⟨fun _ h => (by cases h), ?_⟩
    gi_wp2
    go_end0
    exact ⟨⟨_, rfl⟩, .inr ⟨[(x - 1, y, z), (x, y - 1, z), (x, y, z - 1)], ⟨[(x, y, z + 1), (x, y + 1, z), (x + 1, y, z)], rfl⟩, hJx⟩⟩
  replace hB : SameAt Bn _ _ := Eq.trans (hKb _ _ hk) hB
  clear d0 d1 d2 hyd hR hk
  obtain ⟨d0, d1, d2⟩ := hcell w3 hB
  obtain ⟨fn, tmps, assign, body, hyd, hR⟩ := hY [(x - 1, y, z), (x, y - 1, z), (x, y, z - 1)] (x, y, z + 1) w3 hJ (by simp)
  unfold cellV at hyd
  dsimp only at hyd
  gi_wp2
  refine hR.mono ?_
  rintro e w4 (⟨rfl, hJ, hk⟩ | ⟨rfl, hJx⟩)
  rotate_left
  · clear d0 d1 d2 hyd hR
    gi_wp2
    refine ⟨fun _ h => (by cases h), ?_⟩
    gi_wp2
    go_end0
    exact ⟨⟨_, rfl⟩, .inr ⟨[(x - 1, y, z), (x, y - 1, z), (x, y, z - 1), (x, y, z + 1)], ⟨[(x, y + 1, z), (x + 1, y, z)], rfl⟩, hJx⟩⟩
  replace hB : SameAt Bn _ _ := Eq.trans (hKb _ _ hk) hB
  clear d0 d1 d2 hyd hR hk
  obtain ⟨d0, d1, d2⟩ := hcell w4 hB
  obtain ⟨fn, tmps, assign, body, hyd, hR⟩ := hY [(x - 1, y, z), (x, y - 1, z), (x, y, z - 1), (x, y, z + 1)] (x, y + 1, z) w4 hJ (by simp)
  unfold cellV at hyd
  dsimp only at hyd
  gi_wp2
  refine hR.mono ?_
  rintro e w5 (⟨rfl, hJ, hk⟩ | ⟨rfl, hJx⟩)
  rotate_left
  · clear d0 d1 d2 hyd hR
    gi_wp2
    refine ⟨fun _ h => (by cases h), ?_⟩
    gi_wp2
    go_end0
    exact ⟨⟨_, rfl⟩, .inr ⟨[(x - 1, y, z), (x, y - 1, z), (x, y, z - 1), (x, y, z + 1), (x, y + 1, z)], ⟨[(x + 1, y, z)], rfl⟩, hJx⟩⟩
  replace hB : SameAt Bn _ _ := Eq.trans (hKb _ _ hk) hB
  clear d0 d1 d2 hyd hR hk
  obtain ⟨d0, d1, d2⟩ := hcell w5 hB
  obtain ⟨fn, tmps, assign, body, hyd, hR⟩ := hY [(x - 1, y, z), (x, y - 1, z), (x, y, z - 1), (x, y, z + 1), (x, y + 1, z)] (x + 1, y, z) w5 hJ (by simp)
  unfold cellV at hyd
  dsimp only at hyd
  gi_wp2
  refine hR.mono ?_
  rintro e w6 (⟨rfl, hJ, hk⟩ | ⟨rfl, hJx⟩)
  rotate_left
  · clear d0 d1 d2 hyd hR
    gi_wp2
    go_end0
    exact ⟨⟨_, rfl⟩, .inr ⟨[(x - 1, y, z), (x, y - 1, z), (x, y, z - 1), (x, y, z + 1), (x, y + 1, z), (x + 1, y, z)], ⟨[], rfl⟩, hJx⟩⟩
  clear d0 d1 d2 hyd hR
  gi_wp2
  go_end0
  exact ⟨⟨_, rfl⟩, .inl ⟨_, rfl, hJ⟩⟩
theorem neighbours_stops (F : Fence) (n : Nat) (h6 : F.fn 114) (hro : F.round = none) (hn : 1 ≤ n) (Bn n₀ : Nat) (c : Cel) (hc : Near c 2000) (hBn0 : Bn < n₀) (w : World) (hn₀ : n₀ ≤ w.heap.size)
    (hW : w.heap[Bn]? = some (.cells (boxC c) 24 (0, 0))) :
    SeqStopsK F n Tryz.prog 114 #[.pointer (some ⟨Bn, 0, none⟩)] (fun x : Cel => #[cellV x]) (Below n₀) (fun ys => ys = nearL c) (fun pre => pre <+: nearL c) (nearL c).length w := fun l J Jx W hW' _ _ hY h0 =>
  neighbours1_in F n h6 hro hn l Bn c hc (Below n₀) (fun _ _ h => h.block _ hBn0) J Jx hY W ((hW'.block Bn (Nat.lt_of_lt_of_le hBn0 hn₀)).trans hW) h0
theorem neighbours_stopsK (F : Fence) (n : Nat) (h6 : F.fn 114) (hro : F.round = none) (hn : 1 ≤ n) (Bn : Nat) (c : Cel) (hc : Near c 2000) (Kp : World → World → Prop) (hKb : ∀ A B, Kp A B → B.heap[Bn]? = A.heap[Bn]?) (w : World) (hBn : Bn < w.heap.size)
    (hW : w.heap[Bn]? = some (.cells (boxC c) 24 (0, 0))) :
    SeqStopsK F n Tryz.prog 114 #[.pointer (some ⟨Bn, 0, none⟩)] (fun x : Cel => #[cellV x]) Kp (fun ys => ys = nearL c) (fun pre => pre <+: nearL c) (nearL c).length w := fun l J Jx W hW' _ _ hY h0 =>
  neighbours1_in F n h6 hro hn l Bn c hc Kp hKb J Jx hY W ((hW'.block Bn hBn).trans hW) h0
theorem neighbours_ok (c : Cel) (w : World) :
    Calls Tryz.prog 51 #[cellV c] w fun e w' => e = .returned (.func (.func 114) #[] #[.pointer (some ⟨w.heap.size, 0, none⟩)]) ∧ w' = w.alloc (.cells (boxC c) 24) := by
  obtain ⟨x, y, z⟩ := c
  unfold cellV boxC
  dsimp only
  go_enter Tryz.func51, Tryz.ntmps51
  go_wp2
  go_ret
  exact ⟨rfl, rfl⟩
end Go.Proofs
end

section
/- Maps with cells as keys, entry by entry: look-up and store. -/
namespace Go.Proofs
open Go.RowKit Go.MapKept
set_option maxHeartbeats 4000000
set_option maxRecDepth 100000
theorem equal_cells (c d : Cel) (w : World) : (Op.equal 24 (cellV c) (cellV d)).run Tryz.prog w = .ok (decide (c = d)) w := by
  obtain ⟨c1, c2, c3⟩ := c
  obtain ⟨d1, d2, d3⟩ := d
  unfold cellV Op.equal Op.maxDepth
  go_simp
  by_cases h1 : c1 = d1 <;> by_cases h2 : c2 = d2 <;> by_cases h3 : c3 = d3 <;> simp [h1, h2, h3]
theorem part_int (xs : Array Value) (off : Nat) (x : Int) (h : xs[off]? = some (.int .i64 x)) (w : World) : (part 3 xs off).run Tryz.prog w = .ok (.int .i64 x) w :=
  run_part_plain w (by kernel_rfl) h
theorem check_int (em : Bool) (n : Nat) (x : Int) (w : World) : (Instr.checkKey em (n + 1) 3 (.int .i64 x)).run Tryz.prog w = .ok () w := by
  unfold Instr.checkKey
  simp [run_underlying Tryz.underlying3]
theorem check_cell (em : Bool) (c : Cel) (w : World) : (Instr.checkKey em 10000 24 (cellV c)).run Tryz.prog w = .ok () w := by
  unfold cellV
  change (Instr.checkKey em (9998 + 1 + 1) _ _).run _ _ = _
  unfold Instr.checkKey
  simp only [Sem.run_bind, run_underlying Tryz.underlying24, Result.andThen]
  have p0 := fun w => part_int #[.int .i64 c.1, .int .i64 c.2.1, .int .i64 c.2.2] 0 c.1 rfl w
  have p1 := fun w => part_int #[.int .i64 c.1, .int .i64 c.2.1, .int .i64 c.2.2] 1 c.2.1 rfl w
  have p2 := fun w => part_int #[.int .i64 c.1, .int .i64 c.2.1, .int .i64 c.2.2] 2 c.2.2 rfl w
  simp [p0, p1, p2, check_int em 9998]
theorem cellV_inj {c d : Cel} (h : cellV c = cellV d) : c = d := by
  obtain ⟨c1, c2, c3⟩ := c
  obtain ⟨d1, d2, d3⟩ := d
  unfold cellV at h
  simpa using h
/-- Block b is a map with just these entries, in their order. -/
def CMap (w : World) (b : Nat) (l : List (Cel × Value)) : Prop := ∃ es clock, w.heap[b]? = some (.map es clock) ∧ es.toList.map (fun e => (e.key, e.val)) = l.map (fun p => (cellV p.1, p.2)) ∧ (∀ e ∈ es.toList, e.born < clock) ∧ (es.toList.map (·.born)).Nodup
/-- What stands at a cell. -/
def getC (c : Cel) : List (Cel × Value) → Option Value
  | [] => none
  | p :: l => if c = p.1 then some p.2 else getC c l
/-- The table with a new value at a cell. -/
def putC (c : Cel) (v : Value) : List (Cel × Value) → List (Cel × Value)
  | [] => [(c, v)]
  | p :: l => if c = p.1 then (c, v) :: l else p :: putC c v l
theorem find_cells (c : Cel) (w : World) : ∀ (es : List MapEntry) (l : List (Cel × Value)) (i : Nat), es.map (fun e => (e.key, e.val)) = l.map (fun p => (cellV p.1, p.2)) →
    (getC c l = none ∧ (Instr.findAsking 24 (cellV c) es i).run Tryz.prog w = .ok none w ∧ ∀ v, putC c v l = l ++ [(c, v)]) ∨
    ∃ j v, getC c l = some v ∧ (Instr.findAsking 24 (cellV c) es i).run Tryz.prog w = .ok (some (i + j, v)) w ∧ (∃ e, es[j]? = some e ∧ e.key = cellV c) ∧ ∀ u, putC c u l = l.set j (c, u)
  | [], [], i, _ => .inl ⟨rfl, by simp [Instr.findAsking], fun v => rfl⟩
  | e :: es, p :: l, i, h => by
    simp only [List.map_cons, List.cons.injEq, Prod.mk.injEq] at h
    obtain ⟨⟨h1, h2⟩, h3⟩ := h
    by_cases hc : c = p.1
    · right
      refine ⟨0, p.2, by simp [getC, hc], ?_, ⟨e, rfl, by rw [h1, hc]⟩, fun u => by simp [putC, hc]⟩
      simp [Instr.findAsking, h1, equal_cells, hc, h2]
    · rcases find_cells c w es l (i + 1) h3 with ⟨g1, g2, g3⟩ | ⟨j, v, g1, g2, g3, g4⟩
      · left
        refine ⟨by simp [getC, hc, g1], ?_, fun v => by simp [putC, hc, g3]⟩
        simp [Instr.findAsking, h1, equal_cells, hc, g2]
      · right
        refine ⟨j + 1, v, by simp [getC, hc, g1], ?_, by simpa using g3, fun u => by simp [putC, hc, g4]⟩
        simp [Instr.findAsking, h1, equal_cells, hc, g2, Nat.add_assoc, Nat.add_comm 1 j]
  | [], _ :: _, _, h => by simp at h
  | _ :: _, [], _, h => by simp at h
theorem findKey_cells (c : Cel) (es : List MapEntry) (w : World) : (Instr.findKey 24 (cellV c) es).run Tryz.prog w = (Instr.findAsking 24 (cellV c) es).run Tryz.prog w :=
  run_findKey_eq w (by rw [Tryz.underlying24]) _ _
theorem lookup_cells {w : World} {b : Nat} {l : List (Cel × Value)} (h : CMap w b l) {t e : TypeId} (ht : Tryz.prog.underlying t = some (.map 24 e)) {z : Value} (hz : (zeroValue e).run Tryz.prog w = .ok z w) (c : Cel) (ck : Bool) :
    (Instr.lookup t (.map (some b)) (cellV c) ck).run Tryz.prog w = .ok (if ck then .tuple #[(getC c l).getD z, .bool (getC c l).isSome] else (getC c l).getD z) w := by
  obtain ⟨es, clock, hb, hm, _⟩ := h
  rcases find_cells c w es.toList l 0 hm with ⟨g1, g2, _⟩ | ⟨j, v, g1, g2, _⟩
  · simp [Instr.lookup, run_underlying ht, MapKept.run_getObj_map hb, check_cell, findKey_cells, g2, g1, hz, Result.andThen]
  · simp [Instr.lookup, run_underlying ht, MapKept.run_getObj_map hb, check_cell, findKey_cells, g2, g1, Result.andThen]
theorem same_cell (c : Cel) : Instr.sameBits 10000 (cellV c) (cellV c) = true := by
  change Instr.sameBits (9998 + 1 + 1) _ _ = _
  simp [cellV, Instr.sameBits]
theorem update_cells {w : World} {b : Nat} {l : List (Cel × Value)} (h : CMap w b l) {t e : TypeId} (ht : Tryz.prog.underlying t = some (.map 24 e)) (c : Cel) (v : Value) :
    ∃ w', (Instr.mapUpdate t (.map (some b)) (cellV c) v).run Tryz.prog w = .ok () w' ∧ CMap w' b (putC c v l) ∧ w.grownBy w' (some b) := by
  obtain ⟨es, clock, hb, hm, hborn, hnd⟩ := h
  rcases find_cells c w es.toList l 0 hm with ⟨g1, g2, g3⟩ | ⟨j, u, g1, g2, ⟨e0, g3, g4⟩, g5⟩
  · refine ⟨_, by simp [Instr.mapUpdate, run_underlying ht, MapKept.run_getObj_map hb, check_cell, findKey_cells, g2, Result.andThen, MapKept.run_setObj_map _ hb]; rfl, ?_, ?_⟩
    · refine ⟨_, _, (heap_set hb).1, ?_, ?_, ?_⟩
      · rw [g3]
        simp [hm]
      · intro e he
        rw [Array.toList_push] at he
        rcases List.mem_append.1 he with he | he
        · exact Nat.lt_succ_of_lt (hborn e he)
        · simp at he
          subst he
          exact Nat.lt_succ_self _
      · rw [Array.toList_push, List.map_append]
        refine List.nodup_append.2 ⟨hnd, by simp, ?_⟩
        rintro x hx y hy rfl
        simp at hy
        subst hy
        obtain ⟨e, he, he'⟩ := List.mem_map.1 hx
        have := hborn e he
        omega
    · exact grown_setBlock (.inl rfl) b _
  · have hj : j < es.size := by
      have := (List.getElem?_eq_some_iff.1 g3).1
      simpa using this
    have hk : ((es[j]?).map (·.key)).getD (cellV c) = cellV c := by
      rw [← Array.getElem?_toList, g3]
      simp [g4]
    refine ⟨_, by simp [Instr.mapUpdate, run_underlying ht, MapKept.run_getObj_map hb, check_cell, findKey_cells, g2, Result.andThen, Instr.keyThatStays, hk, same_cell, MapKept.run_setObj_map _ hb]; rfl, ?_, ?_⟩
    · refine ⟨_, _, (heap_set hb).1, ?_, ?_⟩
      rw [g5]
      have hmod : ∀ (L : List MapEntry) (j : Nat), L[j]? = some e0 → (L.modify j fun e => { e with key := cellV c, val := v }).map (fun e => (e.key, e.val)) = (L.map (fun e => (e.key, e.val))).set j (cellV c, v) := fun L => by
        induction L with
        | nil => intro j h; simp at h
        | cons x L ih =>
          intro j h
          cases j with
          | zero => simp
          | succ j => simpa using ih j (by simpa using h)
      rw [Array.toList_modify, hmod _ _ g3, hm, List.map_set]
      have hbn : ∀ (L : List MapEntry) (j : Nat), (L.modify j fun e => { e with key := cellV c, val := v }).map (·.born) = L.map (·.born) := fun L => by
        induction L with
        | nil => intro j; simp
        | cons x L ih =>
          intro j
          cases j with
          | zero => simp
          | succ j => simpa using ih j
      refine ⟨fun e he => ?_, ?_⟩
      · have h1 : e.born ∈ (es.modify j fun e => { e with key := cellV c, val := v }).toList.map (·.born) := List.mem_map.2 ⟨e, he, rfl⟩
        rw [Array.toList_modify, hbn] at h1
        obtain ⟨e', he', h2⟩ := List.mem_map.1 h1
        rw [← h2]
        exact hborn e' he'
      · rw [Array.toList_modify, hbn]
        exact hnd
    · exact grown_setBlock (.inl rfl) b _
theorem CMap.keep {w w' : World} {b : Nat} {l : List (Cel × Value)} (h : CMap w b l) (hb : w'.heap[b]? = w.heap[b]?) : CMap w' b l := by
  obtain ⟨es, clock, h1, h2⟩ := h
  exact ⟨es, clock, hb.trans h1, h2⟩
theorem CMap.lt {w : World} {b : Nat} {l : List (Cel × Value)} (h : CMap w b l) : b < w.heap.size := by
  obtain ⟨es, clock, h1, _⟩ := h
  exact (Array.getElem?_eq_some_iff.1 h1).1
theorem CMap.below {w w' : World} {b B : Nat} {l : List (Cel × Value)} (h : CMap w b l) (hB : Below B w w') (hb : b < B) : CMap w' b l := h.keep (hB.block b hb)
theorem CMap.alloc {w : World} {b : Nat} {l : List (Cel × Value)} (h : CMap w b l) (o : Obj) : CMap (w.alloc o) b l := h.keep ((heap_alloc w o).2 b h.lt)
theorem CMap.made (w : World) : CMap (w.alloc (.map #[] 0)) w.heap.size [] := ⟨#[], 0, (heap_alloc w _).1, rfl, by simp, by simp⟩
theorem CMap.len {w : World} {b : Nat} {l : List (Cel × Value)} (h : CMap w b l) : ∃ es clock, w.heap[b]? = some (.map es clock) ∧ es.size = l.length := by
  obtain ⟨es, clock, h1, h2, _⟩ := h
  refine ⟨es, clock, h1, ?_⟩
  have := congrArg List.length h2
  simpa using this
/-- A set of cells: a table that says true at each. -/
def CSet (w : World) (b : Nat) (l : List Cel) : Prop := CMap w b (l.map fun c => (c, Value.bool true))
def addC (c : Cel) (l : List Cel) : List Cel := if c ∈ l then l else l ++ [c]
theorem getC_set (c : Cel) : ∀ l : List Cel, getC c (l.map fun d => (d, Value.bool true)) = if c ∈ l then some (.bool true) else none
  | [] => rfl
  | d :: l => by
    simp only [List.map_cons, getC, getC_set c l, List.mem_cons]
    by_cases h : c = d <;> simp [h]
theorem putC_set (c : Cel) : ∀ l : List Cel, putC c (.bool true) (l.map fun d => (d, Value.bool true)) = (addC c l).map fun d => (d, Value.bool true)
  | [] => by simp [putC, addC]
  | d :: l => by
    have ih := putC_set c l
    unfold addC at ih ⊢
    by_cases h : c = d
    · subst h
      simp [putC]
    · simp only [List.map_cons, putC, h, if_false, ih, List.mem_cons, false_or]
      by_cases h2 : c ∈ l <;> simp [h2]
theorem mem_addC {c d : Cel} {l : List Cel} : d ∈ addC c l ↔ d = c ∨ d ∈ l := by
  unfold addC
  split
  · rename_i h
    constructor
    · exact .inr
    · rintro (rfl | h') <;> assumption
  · simp [or_comm]
theorem nodup_addC {c : Cel} {l : List Cel} (h : l.Nodup) : (addC c l).Nodup := by
  unfold addC
  split
  · exact h
  · rename_i hc
    refine List.nodup_append.2 ⟨h, by simp, ?_⟩
    rintro a ha b hb rfl
    simp at hb
    subst hb
    exact hc ha
section
variable {w : World} {ops : Array Oper} {rest : List Oper} {o : Oper} {a : Act} {Q : Exit → Act → World → Prop}
/-- A look-up in a set of cells, in a walk. -/
theorem wpList_lookup_set (hg : o.guard = none) (m x : Operand) (t : TypeId) (hop : o.op = Op.lookup t m x false) (ht : Tryz.prog.underlying t = some (.map 24 4)) (b : Nat) (l : List Cel) (hm : a.eval m = .map (some b)) (hs : CSet w b l) (c : Cel) (hx : a.eval x = cellV c) (r : Bool) (hr : decide (c ∈ l) = r)
    (h : wpList Tryz.prog ops Q rest (a.put o.dst (.bool r)) w) : wpList Tryz.prog ops Q (o :: rest) a w := by
  refine wpList_plain hg fun K hK => ?_
  have hz : (zeroValue 4).run Tryz.prog w = .ok (.bool false) w := by go_simp
  have hl := lookup_cells hs ht hz c false
  rw [getC_set] at hl
  have e : ((if c ∈ l then some (Value.bool true) else none : Option Value).getD (.bool false)) = .bool r := by
    subst hr
    by_cases hc : c ∈ l <;> simp [hc]
  rw [e] at hl
  simp only [Bool.false_eq_true, if_false] at hl
  unfold Oper.wp
  simp only [execOp, hop, hm, hx]
  simp only [Sem.run_bind, hl, Result.andThen]
  exact hK _ _ h
/-- A store into a set of cells, in a walk. -/
theorem wpList_update_set (hg : o.guard = none) (m x v : Operand) (t : TypeId) (hop : o.op = Op.mapUpdate t m x v) (ht : Tryz.prog.underlying t = some (.map 24 4)) (b : Nat) (l : List Cel) (hm : a.eval m = .map (some b)) (hs : CSet w b l) (c : Cel) (hx : a.eval x = cellV c) (hv : a.eval v = .bool true)
    (h : ∀ w', CSet w' b (addC c l) → w.grownBy w' (some b) → wpList Tryz.prog ops Q rest (a.put o.dst undef) w') : wpList Tryz.prog ops Q (o :: rest) a w := by
  refine wpList_plain hg fun K hK => ?_
  obtain ⟨w', h1, h2, h3⟩ := update_cells hs ht c (.bool true)
  rw [putC_set] at h2
  unfold Oper.wp
  simp [execOp, hop, hm, hx, hv, h1, Result.andThen]
  exact hK _ _ (h w' h2 h3)
end
end Go.Proofs
end
