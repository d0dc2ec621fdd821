import Derived.Test.YtpickbchpnbffaaGreatCells
import Derived.Laws.StructEq
import Derived.WideKeyRuns
import Derived.MapKept
import Derived.Maps.OwnOps
import Derived.Test.YtpickbchpnbffaaGreatGrP
import Derived.RangeFuncLeaves
import Derived.Maps.OwnIn
import Derived.Maps.AppendAt
import Derived.RangeFuncNested
import Derived.Laws.ResultCell
import Derived.Scope
import Derived.ControlIn
import Derived.Test.YtpickbchpnbffaaGreatDistP
section
/- Maps with cells as keys, entry by entry: look-up and store. -/
namespace Go.Proofs
open Go.RowKit Go.MapKept
set_option maxHeartbeats 4000000
set_option maxRecDepth 100000
theorem equal_cells (c d : Cel) (w : World) : (Op.equal 34 (cellV c) (cellV d)).run Tryz.prog w = .ok (decide (c = d)) w := by
  obtain ⟨c1, c2, c3⟩ := c
  obtain ⟨d1, d2, d3⟩ := d
  unfold cellV Op.equal Op.maxDepth
  go_simp
  by_cases h1 : c1 = d1 <;> by_cases h2 : c2 = d2 <;> by_cases h3 : c3 = d3 <;> simp [h1, h2, h3]
theorem part_int (xs : Array Value) (off : Nat) (x : Int) (h : xs[off]? = some (.int .i64 x)) (w : World) : (part 3 xs off).run Tryz.prog w = .ok (.int .i64 x) w :=
  run_part_plain w (by kernel_rfl) h
theorem check_int (em : Bool) (n : Nat) (x : Int) (w : World) : (Instr.checkKey em (n + 1) 3 (.int .i64 x)).run Tryz.prog w = .ok () w := by
  unfold Instr.checkKey
  simp [run_underlying Tryz.underlying3]
theorem check_cell (em : Bool) (c : Cel) (w : World) : (Instr.checkKey em 10000 34 (cellV c)).run Tryz.prog w = .ok () w := by
  unfold cellV
  change (Instr.checkKey em (9998 + 1 + 1) _ _).run _ _ = _
  unfold Instr.checkKey
  simp only [Sem.run_bind, run_underlying Tryz.underlying34, Result.andThen]
  have p0 := fun w => part_int #[.int .i64 c.1, .int .i64 c.2.1, .int .i64 c.2.2] 0 c.1 rfl w
  have p1 := fun w => part_int #[.int .i64 c.1, .int .i64 c.2.1, .int .i64 c.2.2] 1 c.2.1 rfl w
  have p2 := fun w => part_int #[.int .i64 c.1, .int .i64 c.2.1, .int .i64 c.2.2] 2 c.2.2 rfl w
  simp [p0, p1, p2, check_int em 9998]
theorem cellV_inj {c d : Cel} (h : cellV c = cellV d) : c = d := by
  obtain ⟨c1, c2, c3⟩ := c
  obtain ⟨d1, d2, d3⟩ := d
  unfold cellV at h
  simpa using h
/-- Block b is a map with just these entries, in their order. -/
def CMap (w : World) (b : Nat) (l : List (Cel × Value)) : Prop := ∃ es clock, w.heap[b]? = some (.map es clock) ∧ es.toList.map (fun e => (e.key, e.val)) = l.map (fun p => (cellV p.1, p.2)) ∧ (∀ e ∈ es.toList, e.born < clock) ∧ (es.toList.map (·.born)).Nodup
/-- What stands at a cell. -/
def getC (c : Cel) : List (Cel × Value) → Option Value
  | [] => none
  | p :: l => if c = p.1 then some p.2 else getC c l
/-- The table with a new value at a cell. -/
def putC (c : Cel) (v : Value) : List (Cel × Value) → List (Cel × Value)
  | [] => [(c, v)]
  | p :: l => if c = p.1 then (c, v) :: l else p :: putC c v l
theorem find_cells (c : Cel) (w : World) : ∀ (es : List MapEntry) (l : List (Cel × Value)) (i : Nat), es.map (fun e => (e.key, e.val)) = l.map (fun p => (cellV p.1, p.2)) →
    (getC c l = none ∧ (Instr.findAsking 34 (cellV c) es i).run Tryz.prog w = .ok none w ∧ ∀ v, putC c v l = l ++ [(c, v)]) ∨
    ∃ j v, getC c l = some v ∧ (Instr.findAsking 34 (cellV c) es i).run Tryz.prog w = .ok (some (i + j, v)) w ∧ (∃ e, es[j]? = some e ∧ e.key = cellV c) ∧ ∀ u, putC c u l = l.set j (c, u)
  | [], [], i, _ => .inl ⟨rfl, by simp [Instr.findAsking], fun v => rfl⟩
  | e :: es, p :: l, i, h => by
    simp only [List.map_cons, List.cons.injEq, Prod.mk.injEq] at h
    obtain ⟨⟨h1, h2⟩, h3⟩ := h
    by_cases hc : c = p.1
    · right
      refine ⟨0, p.2, by simp [getC, hc], ?_, ⟨e, rfl, by rw [h1, hc]⟩, fun u => by simp [putC, hc]⟩
      simp [Instr.findAsking, h1, equal_cells, hc, h2]
    · rcases find_cells c w es l (i + 1) h3 with ⟨g1, g2, g3⟩ | ⟨j, v, g1, g2, g3, g4⟩
      · left
        refine ⟨by simp [getC, hc, g1], ?_, fun v => by simp [putC, hc, g3]⟩
        simp [Instr.findAsking, h1, equal_cells, hc, g2]
      · right
        refine ⟨j + 1, v, by simp [getC, hc, g1], ?_, by simpa using g3, fun u => by simp [putC, hc, g4]⟩
        simp [Instr.findAsking, h1, equal_cells, hc, g2, Nat.add_assoc, Nat.add_comm 1 j]
  | [], _ :: _, _, h => by simp at h
  | _ :: _, [], _, h => by simp at h
theorem findKey_cells (c : Cel) (es : List MapEntry) (w : World) : (Instr.findKey 34 (cellV c) es).run Tryz.prog w = (Instr.findAsking 34 (cellV c) es).run Tryz.prog w :=
  run_findKey_eq w (by rw [Tryz.underlying34]) _ _
theorem lookup_cells {w : World} {b : Nat} {l : List (Cel × Value)} (h : CMap w b l) {t e : TypeId} (ht : Tryz.prog.underlying t = some (.map 34 e)) {z : Value} (hz : (zeroValue e).run Tryz.prog w = .ok z w) (c : Cel) (ck : Bool) :
    (Instr.lookup t (.map (some b)) (cellV c) ck).run Tryz.prog w = .ok (if ck then .tuple #[(getC c l).getD z, .bool (getC c l).isSome] else (getC c l).getD z) w := by
  obtain ⟨es, clock, hb, hm, _⟩ := h
  rcases find_cells c w es.toList l 0 hm with ⟨g1, g2, _⟩ | ⟨j, v, g1, g2, _⟩
  · simp [Instr.lookup, run_underlying ht, MapKept.run_getObj_map hb, check_cell, findKey_cells, g2, g1, hz, Result.andThen]
  · simp [Instr.lookup, run_underlying ht, MapKept.run_getObj_map hb, check_cell, findKey_cells, g2, g1, Result.andThen]
theorem same_cell (c : Cel) : Instr.sameBits 10000 (cellV c) (cellV c) = true := by
  change Instr.sameBits (9998 + 1 + 1) _ _ = _
  simp [cellV, Instr.sameBits]
theorem update_cells {w : World} {b : Nat} {l : List (Cel × Value)} (h : CMap w b l) {t e : TypeId} (ht : Tryz.prog.underlying t = some (.map 34 e)) (c : Cel) (v : Value) :
    ∃ w', (Instr.mapUpdate t (.map (some b)) (cellV c) v).run Tryz.prog w = .ok () w' ∧ CMap w' b (putC c v l) ∧ w.grownBy w' (some b) := by
  obtain ⟨es, clock, hb, hm, hborn, hnd⟩ := h
  rcases find_cells c w es.toList l 0 hm with ⟨g1, g2, g3⟩ | ⟨j, u, g1, g2, ⟨e0, g3, g4⟩, g5⟩
  · refine ⟨_, by simp [Instr.mapUpdate, run_underlying ht, MapKept.run_getObj_map hb, check_cell, findKey_cells, g2, Result.andThen, MapKept.run_setObj_map _ hb]; rfl, ?_, ?_⟩
    · refine ⟨_, _, (heap_set hb).1, ?_, ?_, ?_⟩
      · rw [g3]
        simp [hm]
      · intro e he
        rw [Array.toList_push] at he
        rcases List.mem_append.1 he with he | he
        · exact Nat.lt_succ_of_lt (hborn e he)
        · simp at he
          subst he
          exact Nat.lt_succ_self _
      · rw [Array.toList_push, List.map_append]
        refine List.nodup_append.2 ⟨hnd, by simp, ?_⟩
        rintro x hx y hy rfl
        simp at hy
        subst hy
        obtain ⟨e, he, he'⟩ := List.mem_map.1 hx
        have := hborn e he
        omega
    · exact grown_setBlock (.inl rfl) b _
  · have hj : j < es.size := by
      have := (List.getElem?_eq_some_iff.1 g3).1
      simpa using this
    have hk : ((es[j]?).map (·.key)).getD (cellV c) = cellV c := by
      rw [← Array.getElem?_toList, g3]
      simp [g4]
    refine ⟨_, by simp [Instr.mapUpdate, run_underlying ht, MapKept.run_getObj_map hb, check_cell, findKey_cells, g2, Result.andThen, Instr.keyThatStays, hk, same_cell, MapKept.run_setObj_map _ hb]; rfl, ?_, ?_⟩
    · refine ⟨_, _, (heap_set hb).1, ?_, ?_⟩
      rw [g5]
      have hmod : ∀ (L : List MapEntry) (j : Nat), L[j]? = some e0 → (L.modify j fun e => { e with key := cellV c, val := v }).map (fun e => (e.key, e.val)) = (L.map (fun e => (e.key, e.val))).set j (cellV c, v) := fun L => by
        induction L with
        | nil => intro j h; simp at h
        | cons x L ih =>
          intro j h
          cases j with
          | zero => simp
          | succ j => simpa using ih j (by simpa using h)
      rw [Array.toList_modify, hmod _ _ g3, hm, List.map_set]
      have hbn : ∀ (L : List MapEntry) (j : Nat), (L.modify j fun e => { e with key := cellV c, val := v }).map (·.born) = L.map (·.born) := fun L => by
        induction L with
        | nil => intro j; simp
        | cons x L ih =>
          intro j
          cases j with
          | zero => simp
          | succ j => simpa using ih j
      refine ⟨fun e he => ?_, ?_⟩
      · have h1 : e.born ∈ (es.modify j fun e => { e with key := cellV c, val := v }).toList.map (·.born) := List.mem_map.2 ⟨e, he, rfl⟩
        rw [Array.toList_modify, hbn] at h1
        obtain ⟨e', he', h2⟩ := List.mem_map.1 h1
        rw [← h2]
        exact hborn e' he'
      · rw [Array.toList_modify, hbn]
        exact hnd
    · exact grown_setBlock (.inl rfl) b _
theorem CMap.keep {w w' : World} {b : Nat} {l : List (Cel × Value)} (h : CMap w b l) (hb : w'.heap[b]? = w.heap[b]?) : CMap w' b l := by
  obtain ⟨es, clock, h1, h2⟩ := h
  exact ⟨es, clock, hb.trans h1, h2⟩
theorem CMap.lt {w : World} {b : Nat} {l : List (Cel × Value)} (h : CMap w b l) : b < w.heap.size := by
  obtain ⟨es, clock, h1, _⟩ := h
  exact (Array.getElem?_eq_some_iff.1 h1).1
theorem CMap.below {w w' : World} {b B : Nat} {l : List (Cel × Value)} (h : CMap w b l) (hB : Below B w w') (hb : b < B) : CMap w' b l := h.keep (hB.block b hb)
theorem CMap.alloc {w : World} {b : Nat} {l : List (Cel × Value)} (h : CMap w b l) (o : Obj) : CMap (w.alloc o) b l := h.keep ((heap_alloc w o).2 b h.lt)
theorem CMap.made (w : World) : CMap (w.alloc (.map #[] 0)) w.heap.size [] := ⟨#[], 0, (heap_alloc w _).1, rfl, by simp, by simp⟩
theorem CMap.len {w : World} {b : Nat} {l : List (Cel × Value)} (h : CMap w b l) : ∃ es clock, w.heap[b]? = some (.map es clock) ∧ es.size = l.length := by
  obtain ⟨es, clock, h1, h2, _⟩ := h
  refine ⟨es, clock, h1, ?_⟩
  have := congrArg List.length h2
  simpa using this
/-- A set of cells: a table that says true at each. -/
def CSet (w : World) (b : Nat) (l : List Cel) : Prop := CMap w b (l.map fun c => (c, Value.bool true))
def addC (c : Cel) (l : List Cel) : List Cel := if c ∈ l then l else l ++ [c]
theorem getC_set (c : Cel) : ∀ l : List Cel, getC c (l.map fun d => (d, Value.bool true)) = if c ∈ l then some (.bool true) else none
  | [] => rfl
  | d :: l => by
    simp only [List.map_cons, getC, getC_set c l, List.mem_cons]
    by_cases h : c = d <;> simp [h]
theorem putC_set (c : Cel) : ∀ l : List Cel, putC c (.bool true) (l.map fun d => (d, Value.bool true)) = (addC c l).map fun d => (d, Value.bool true)
  | [] => by simp [putC, addC]
  | d :: l => by
    have ih := putC_set c l
    unfold addC at ih ⊢
    by_cases h : c = d
    · subst h
      simp [putC]
    · simp only [List.map_cons, putC, h, if_false, ih, List.mem_cons, false_or]
      by_cases h2 : c ∈ l <;> simp [h2]
theorem mem_addC {c d : Cel} {l : List Cel} : d ∈ addC c l ↔ d = c ∨ d ∈ l := by
  unfold addC
  split
  · rename_i h
    constructor
    · exact .inr
    · rintro (rfl | h') <;> assumption
  · simp [or_comm]
theorem nodup_addC {c : Cel} {l : List Cel} (h : l.Nodup) : (addC c l).Nodup := by
  unfold addC
  split
  · exact h
  · rename_i hc
    refine List.nodup_append.2 ⟨h, by simp, ?_⟩
    rintro a ha b hb rfl
    simp at hb
    subst hb
    exact hc ha
section
variable {w : World} {ops : Array Oper} {rest : List Oper} {o : Oper} {a : Act} {Q : Exit → Act → World → Prop}
/-- A look-up in a set of cells, in a walk. -/
theorem wpList_lookup_set (hg : o.guard = none) (m x : Operand) (t : TypeId) (hop : o.op = Op.lookup t m x false) (ht : Tryz.prog.underlying t = some (.map 34 4)) (b : Nat) (l : List Cel) (hm : a.eval m = .map (some b)) (hs : CSet w b l) (c : Cel) (hx : a.eval x = cellV c) (r : Bool) (hr : decide (c ∈ l) = r)
    (h : wpList Tryz.prog ops Q rest (a.put o.dst (.bool r)) w) : wpList Tryz.prog ops Q (o :: rest) a w := by
  refine wpList_plain hg fun K hK => ?_
  have hz : (zeroValue 4).run Tryz.prog w = .ok (.bool false) w := by go_simp
  have hl := lookup_cells hs ht hz c false
  rw [getC_set] at hl
  have e : ((if c ∈ l then some (Value.bool true) else none : Option Value).getD (.bool false)) = .bool r := by
    subst hr
    by_cases hc : c ∈ l <;> simp [hc]
  rw [e] at hl
  simp only [Bool.false_eq_true, if_false] at hl
  unfold Oper.wp
  simp only [execOp, hop, hm, hx]
  simp only [Sem.run_bind, hl, Result.andThen]
  exact hK _ _ h
/-- A store into a set of cells, in a walk. -/
theorem wpList_update_set (hg : o.guard = none) (m x v : Operand) (t : TypeId) (hop : o.op = Op.mapUpdate t m x v) (ht : Tryz.prog.underlying t = some (.map 34 4)) (b : Nat) (l : List Cel) (hm : a.eval m = .map (some b)) (hs : CSet w b l) (c : Cel) (hx : a.eval x = cellV c) (hv : a.eval v = .bool true)
    (h : ∀ w', CSet w' b (addC c l) → w.grownBy w' (some b) → wpList Tryz.prog ops Q rest (a.put o.dst undef) w') : wpList Tryz.prog ops Q (o :: rest) a w := by
  refine wpList_plain hg fun K hK => ?_
  obtain ⟨w', h1, h2, h3⟩ := update_cells hs ht c (.bool true)
  rw [putC_set] at h2
  unfold Oper.wp
  simp [execOp, hop, hm, hx, hv, h1, Result.andThen]
  exact hK _ _ (h w' h2 h3)
end
end Go.Proofs
end

section
/- Ranges over a function within a loop: the collected deferred calls, one for each round; what a round keeps. -/
namespace Go.Proofs
open Go.RowKit Go.Shelf
set_option maxHeartbeats 4000000
set_option maxRecDepth 100000
def coll (D : Nat) : Deferred := { target := .collected D, args := #[] }
/-- Blocks for deferred calls, all of them empty. -/
def Defs (W : World) (B : Nat) (Ds : List Nat) : Prop := Ds.Nodup ∧ ∀ D ∈ Ds, B ≤ D ∧ W.heap[D]? = some (.deferred (some []))
theorem Defs.nil (W : World) (B : Nat) : Defs W B [] := ⟨List.nodup_nil, fun _ h => (nomatch h)⟩
theorem Defs.lt {W : World} {B : Nat} {Ds : List Nat} (h : Defs W B Ds) {D : Nat} (hD : D ∈ Ds) : D < W.heap.size := (Array.getElem?_eq_some_iff.1 (h.2 D hD).2).1
theorem Defs.keep {W W' : World} {B : Nat} {Ds : List Nat} (h : Defs W B Ds) (hk : ∀ D ∈ Ds, W'.heap[D]? = W.heap[D]?) : Defs W' B Ds := ⟨h.1, fun D hD => ⟨(h.2 D hD).1, (hk D hD).trans (h.2 D hD).2⟩⟩
/-- What leaving a function lets be: all but some blocks. -/
structure Spent (B : Nat) (W W' : World) : Prop where
  os : W'.os = W.os
  tape : W'.tape = W.tape
  output : W'.output = W.output
  size : W'.heap.size = W.heap.size
  cells : ∀ (k : Nat) (o : Obj), W.heap[k]? = some o → o.isCells = true → W'.heap[k]? = some o
  below : ∀ k : Nat, k < B → W'.heap[k]? = W.heap[k]?
theorem Spent.refl (B : Nat) (W : World) : Spent B W W := ⟨rfl, rfl, rfl, rfl, fun _ _ h _ => h, fun _ _ => rfl⟩
theorem putObj_other (W : World) (D : Nat) (o : Obj) (k : Nat) (h : k ≠ D) : (W.putObj D o).heap[k]? = W.heap[k]? := by
  simp [World.putObj, Ne.symm h]
theorem leaves_all {F : Fence} {n : Nat} {P : Program} {fn : Func} {tmps : Array Value} {R : Ending → World → Prop} {B : Nat} : ∀ (Ds : List Nat) (W : World), Defs W B Ds → (∀ W', Spent B W W' → LeavesIn F n P fn tmps R [] .returning W') → LeavesInM F n P fn tmps R (Ds.map coll) .returning W
  | [], W, _, h => h W (Spent.refl _ _)
  | D :: Ds, W, hd, h => by
    have hD := (hd.2 D (by simp)).2
    have hnd := List.nodup_cons.1 hd.1
    refine ⟨by simp, .inl ⟨_, _, rfl, run_takeDeferred hD, ?_⟩⟩
    have hs : ∀ k, k ≠ D → (W.putObj D (.deferred none)).heap[k]? = W.heap[k]? := fun k hk => putObj_other W D _ k hk
    refine leaves_all Ds _ ⟨hnd.2, fun E hE => ⟨(hd.2 E (by simp [hE])).1, (hs E (fun e => hnd.1 (e ▸ hE))).trans (hd.2 E (by simp [hE])).2⟩⟩ fun W' hW' => h W' ?_
    refine ⟨hW'.os, hW'.tape, hW'.output, hW'.size.trans (by simp [World.putObj]), fun k o hk ho => hW'.cells k o ?_ ho, fun k hk => (hW'.below k hk).trans (hs k (by have := (hd.2 D (by simp)).1; omega))⟩
    by_cases e : k = D
    · subst e
      rw [hD] at hk
      cases hk
      cases ho
    · exact (hs k e).trans hk
/-- Cells, and all below n, as they were; the world may have grown. -/
structure Frame3 (n : Nat) (W W' : World) : Prop where
  os : W'.os = W.os
  tape : W'.tape = W.tape
  output : W'.output = W.output
  size : W.heap.size ≤ W'.heap.size
  cells : ∀ (k : Nat) (o : Obj), W.heap[k]? = some o → o.isCells = true → W'.heap[k]? = some o
  below : ∀ k : Nat, k < n → W'.heap[k]? = W.heap[k]?
theorem Frame3.refl (n : Nat) (W : World) : Frame3 n W W := ⟨rfl, rfl, rfl, Nat.le_refl _, fun _ _ h _ => h, fun _ _ => rfl⟩
/-- 'There was a world of this kind, of which this is left': it abides turns of what is no cells. -/
theorem frame_own {β : Type} {n : Nat} {C : β → World → Prop} (hn : ∀ s W, C s W → n ≤ W.heap.size) : OwnFrom n (fun (s : β) W' => ∃ W, C s W ∧ Frame3 n W W') := by
  rintro s A B row ⟨W, hC, hF⟩ hg hr
  have hlt : ∀ (k : Nat) (o : Obj), A.heap[k]? = some o → k < A.heap.size := fun k o h => (Array.getElem?_eq_some_iff.1 h).1
  refine ⟨W, hC, ⟨hg.os.trans hF.os, hg.tape.trans hF.tape, hg.output.trans hF.output, Nat.le_trans hF.size hg.size, fun k o hk ho => ?_, fun k hk => ?_⟩⟩
  · have h1 := hF.cells k o hk ho
    refine (hg.block k (hlt k o h1) fun e => ?_).trans h1
    obtain ⟨_, o', ho', hc⟩ := hr k e.symm
    rw [h1] at ho'
    cases ho'
    rw [ho] at hc
    cases hc
  · have hkA : k < A.heap.size := Nat.lt_of_lt_of_le hk (Nat.le_trans (hn s W hC) hF.size)
    refine (hg.block k hkA fun e => ?_).trans (hF.below k hk)
    have := (hr k e.symm).1
    omega
/-- A block of one cell of the document's: three numbers. -/
def Boxed3 (W : World) (B : Nat) (c : Cel) : Prop := W.heap[B]? = some (.cells #[.int .i64 c.1, .int .i64 c.2.1, .int .i64 c.2.2] 34 (0, 0))
theorem Boxed3.own {β : Type} (B : Nat) (f : β → Cel) : Go.Own (fun s W => Boxed3 W B (f s)) := fun s X Y row hs hg hrow =>
  (hg.block B (Array.getElem?_eq_some_iff.1 hs).1 (fun e' => by obtain ⟨o, ho, hc⟩ := hrow B e'.symm; rw [show X.heap[B]? = _ from hs] at ho; cases ho; cases hc)).trans hs
theorem Boxed3.cell {W : World} {B : Nat} {c : Cel} (h : Boxed3 W B c) : W.cell? ⟨B, 0, none⟩ = some (.int .i64 c.1) ∧ W.cell? ⟨B, 1, none⟩ = some (.int .i64 c.2.1) ∧ W.cell? ⟨B, 2, none⟩ = some (.int .i64 c.2.2) := by
  have zl := fun j => cell_of_row W B j _ _ _ h
  have z0 := zl 0
  have z1 := zl 1
  have z2 := zl 2
  simp at z0 z1 z2
  exact ⟨z0, z1, z2⟩
theorem cell_three_new (w : World) (c : Cel) (t : TypeId) : ∀ j u, (encC c)[j]? = some u → (w.alloc (.cells #[.int .i64 c.1, .int .i64 c.2.1, .int .i64 c.2.2] t)).cell? ((⟨w.heap.size, 0, none⟩ : Addr).add j) = some u := by
  intro j u hj
  match j, hj with
  | 0, hj => simp [encC] at hj; subst hj; simp [Addr.add]
  | 1, hj => simp [encC] at hj; subst hj; simp [Addr.add]
  | 2, hj => simp [encC] at hj; subst hj; simp [Addr.add]
section
variable {F : Fence} {nF : Nat} {w : World} {ops : Array Oper} {rest : List Oper} {o : Oper} {a : Act} {Q : Exit → Act → World → Prop}
/-- append of one cell that was just laid, in a round or under a fence. -/
theorem wpListIn_append_one (hgd : o.guard = none) (s x : Operand) (ho : o.op = .call { callee := .builtin .append, args := #[s, x], argTypes := #[22, 22] }) (B : Nat) (hB : B ≤ w.heap.size) (v : Value) (l : List Cel) (hs : a.eval s = v) (hown : Own w B v l) (c : Cel)
    (hx : a.eval x = .slice (some ⟨w.heap.size, 0, none⟩) 1 1) (hn : l.length + 1 ≤ 1000000)
    (h : ∀ v' w', Own w' B v' (l ++ [c]) → (w.alloc (.cells #[.int .i64 c.1, .int .i64 c.2.1, .int .i64 c.2.2] 34)).grownBy w' v.ownBlock → (v'.ownBlock = v.ownBlock ∨ v'.ownBlock = some (w.heap.size + 1)) → (∃ g cap, v' = .slice (some ⟨g, 0, none⟩) (l.length + 1) cap) → wpListIn F nF Tryz.prog ops Q rest (a.put o.dst v') w') :
    wpListIn F nF Tryz.prog ops Q (o :: rest) a (w.alloc (.cells #[.int .i64 c.1, .int .i64 c.2.1, .int .i64 c.2.2] 34)) := by
  obtain ⟨j0, hj, hy0, hy1, hy2⟩ := info_parts (P := Tryz.prog) (e := 34) (z := .agg #[.int .i64 0, .int .i64 0, .int .i64 0]) (size := 3) (bytes := 24) (by kernel_rfl)
  refine wpListIn_append_own_at _ hgd s x 22 ho B 34 j0 _ 3 24 Tryz.underlying22 hj hy0 hy1 hy2 rfl (by decide) v l.length (flatC l) hs (hown.alloc _) ⟨w.heap.size, 0, none⟩ 1 1 (encC c) hx rfl (cell_three_new w c _)
    (fun u hu => by simp [encC] at hu; rcases hu with rfl | rfl | rfl <;> rfl) (by unfold maxLen; omega) (by omega) (by simp; omega) (fun v' w' h1 h2 _ h4 => ?_)
  obtain ⟨g', cap', rfl⟩ := ownsRow_succ h1
  refine h _ w' ?_ h2 (by simpa using h4) ⟨g', cap', rfl⟩
  have : Own w' B (.slice (some ⟨g', 0, none⟩) (l.length + 1) cap') (l ++ [c]) := own_of h1 (by simp) (by rw [flatC_append]; simp [flatC])
  exact this
/-- A look-up in a set of cells, in a round or under a fence. -/
theorem wpListIn_lookup_set (hg : o.guard = none) (m x : Operand) (t : TypeId) (hop : o.op = Op.lookup t m x false) (ht : Tryz.prog.underlying t = some (.map 34 4)) (b : Nat) (l : List Cel) (hm : a.eval m = .map (some b)) (hs : CSet w b l) (c : Cel) (hx : a.eval x = cellV c) (r : Bool) (hr : decide (c ∈ l) = r)
    (h : wpListIn F nF Tryz.prog ops Q rest (a.put o.dst (.bool r)) w) : wpListIn F nF Tryz.prog ops Q (o :: rest) a w := by
  refine wpListIn_plain hg fun K hK => ?_
  have hz : (zeroValue 4).run Tryz.prog w = .ok (.bool false) w := by go_simp
  have hl := lookup_cells hs ht hz c false
  rw [getC_set] at hl
  have e : ((if c ∈ l then some (Value.bool true) else none : Option Value).getD (.bool false)) = .bool r := by
    subst hr
    by_cases hc : c ∈ l <;> simp [hc]
  rw [e] at hl
  simp only [Bool.false_eq_true, if_false] at hl
  unfold Oper.wpIn
  refine ⟨by simp [Oper.about, hop], ?_⟩
  rw [Oper.semAt_plain F _ _ (by rw [hop]; intro c hc'; cases hc')]
  simp [execOp, hop, hm, hx, hl, Result.andThen]
  exact hK _ _ h
end
section
variable {F : Fence} {n : Nat} {P : Program} {b : Frame} {a : Act} {k : List Item} {cs : List Frame} {w : World} {Q : Exit → Act → World → Prop}
theorem stepR_scope {c : Code} : step P (lone (b.atR a (.code (.scope c) :: k)) cs w) = .next (lone (b.atR a (.code c :: .inScope c :: k)) cs w) :=
  step_lone_go (by simp [stepG, stepG.exec, Frame.atR])
theorem stepR_inScope {c : Code} : step P (lone (b.atR a (.inScope c :: k)) cs w) = .next (lone (b.atR a k) cs w) :=
  step_lone_go (by simp [stepG, stepG.exec, Frame.atR])
theorem stepR_label {l : Nat} : step P (lone (b.atR a (.code (.label l) :: k)) cs w) = .next (lone (b.atR a k) cs w) :=
  step_lone_go (by simp [stepG, stepG.exec, Frame.atR])
/-- A scope whose labels nobody jumps to. -/
theorem wpIn_scope_straight {c : Code} (h : c.wpIn F n P (Exit.noGoto Q) a w) : (Code.scope c).wpIn F n P Q a w := by
  intro b k cs hro hb hr
  have h0 : (lone (b.atR a (.code (.scope c) :: k)) cs w).fenced P F := fenced_calm hb hr rfl
  obtain ⟨e, a₁, w₁, hq, harr⟩ := h b (.inScope c :: k) cs hro hb hr
  cases e with
  | normal => exact ⟨.normal, a₁, w₁, hq, .head h0 stepR_scope (StepsIn.trans harr (.one (fenced_calm hb hr rfl) stepR_inScope))⟩
  | exit id =>
    have hx : exitTo id (.inScope c :: k) = exitTo id k := by simp [exitTo]
    exact ⟨.exit id, a₁, w₁, hq, fun k' hk => .head h0 stepR_scope (harr.1 k' (by rw [hx]; exact hk)),
      fun hr' hk => let ⟨k₁, h1, h2⟩ := harr.2 hr' (by rw [hx]; exact hk); ⟨k₁, h1, .head h0 stepR_scope h2⟩⟩
  | goto l => exact hq.elim
  | ret => exact ⟨_, a₁, w₁, hq, .of_steps (.one h0 stepR_scope) harr⟩
  | panic ch => exact ⟨_, a₁, w₁, hq, .of_steps (.one h0 stepR_scope) harr⟩
  | outgrown => exact ⟨_, a₁, w₁, hq, .of_steps (.one h0 stepR_scope) harr⟩
theorem wpIn_label {l : Nat} (h : Q .normal a w) : (Code.label l).wpIn F n P Q a w := by
  intro b k cs hro hb hr
  exact ⟨.normal, a, w, h, .one (fenced_calm hb hr rfl) stepR_label⟩
end
end Go.Proofs
end

section
/- setOf: a set of the cells of a list. -/
namespace Go.Proofs
open Go.RowKit
set_option maxHeartbeats 8000000
set_option maxRecDepth 1000000
def setL (l : List Cel) : List Cel := l.foldl (fun m c => addC c m) []
theorem fold_addC : ∀ (l m : List Cel), (∀ c, c ∈ l.foldl (fun m c => addC c m) m ↔ c ∈ l ∨ c ∈ m)
  | [], m, c => by simp
  | d :: l, m, c => by
    rw [List.foldl_cons, fold_addC l (addC d m) c, mem_addC, List.mem_cons]
    constructor
    · rintro (h | h | h)
      · exact .inl (.inr h)
      · exact .inl (.inl h)
      · exact .inr h
    · rintro ((h | h) | h)
      · exact .inr (.inl h)
      · exact .inl h
      · exact .inr (.inr h)
theorem mem_setL {l : List Cel} {c : Cel} : c ∈ setL l ↔ c ∈ l := by
  unfold setL
  rw [fold_addC]
  simp
theorem fold_nodup : ∀ (l m : List Cel), m.Nodup → (l.foldl (fun m c => addC c m) m).Nodup
  | [], _, h => h
  | d :: l, m, h => fold_nodup l (addC d m) (nodup_addC h)
theorem nodup_setL (l : List Cel) : (setL l).Nodup := fold_nodup l [] List.nodup_nil
theorem setL_take {l : List Cel} {k : Nat} {c : Cel} (hc : l[k]? = some c) : setL (l.take (k + 1)) = addC c (setL (l.take k)) := by
  unfold setL
  rw [List.take_add_one, hc]
  simp
theorem setL_len (l : List Cel) : (setL l).length ≤ l.length := nodup_len (nodup_setL l) fun _ h => mem_setL.1 h
theorem run_makeMap_some (t : TypeId) (n : Nat) (w : World) (ht : ∃ k e, Tryz.prog.underlying t = some (.map k e)) : (Instr.makeMap t (some (.int .i64 n))).run Tryz.prog w = .ok (.map (some w.heap.size)) (w.alloc (.map #[] 0)) := by
  obtain ⟨k, e, ht⟩ := ht
  simp [Instr.makeMap, run_underlying ht, asInt, Result.andThen]
  rfl
theorem setOf_ok (l : List Cel) (v : Value) (w : World) (hl : Sl w v l) (hn : l.length ≤ maxLen) :
    Calls Tryz.prog 44 #[v] w fun e w' => ∃ b, e = .returned (.map (some b)) ∧ w.heap.size ≤ b ∧ CSet w' b (setL l) ∧ Below w.heap.size w w' := by
  unfold maxLen at hn
  obtain ⟨A, cap, rfl⟩ := hl.form
  have hmk := run_makeMap_some 78 l.length w ⟨_, _, Tryz.underlying78⟩
  have hmade : CSet (w.alloc (.map #[] 0)) w.heap.size (setL (l.take 0)) := by
    have := CMap.made w
    simpa [setL, CSet] using this
  have hB0 : Below w.heap.size w (w.alloc (.map #[] 0)) := (Below.refl _ _).alloc (Nat.le_refl _) _
  go_enter Tryz.func44, Tryz.ntmps44
  go_wp2
  go_loopw [11] (fun i wr => ∃ k : Nat, k ≤ l.length ∧ i = .int .i64 k ∧ CSet wr w.heap.size (setL (l.take k)) ∧ Below w.heap.size w wr) (fun i _ => l.length - (intOf i).toNat)
  case atStart => exact ⟨0, Nat.zero_le _, rfl, hmade, hB0⟩
  case round =>
    obtain ⟨k, hk, rfl, hset, hB⟩ := hrel
    rename World => w1
    rcases Nat.lt_or_eq_of_le hk with hkn | rfl
    · obtain ⟨b, o, x, y, z, rfl, -, hb, hc, r0, r1, r2⟩ := hl.cells hkn
      have hsz := hB.size
      rw [← hB.cell (p := ⟨b, _, none⟩) hb] at r0 r1 r2
      have hset1 := hset.alloc (.cells #[.int .i64 x, .int .i64 y, .int .i64 z] 34)
      have HT := Lib.hid (setL_take hc)
      clear hl hset hmk hmade hB0
      go_wp2_with (at_mapUpdate; refine wpList_update_set rfl _ _ _ _ rfl Tryz.underlying78 w.heap.size _ rfl hset1 (x, y, z) rfl rfl ?_; intro w2 hset2 hg2)
      refine ⟨⟨k + 1, hkn, rfl, by rw [HT.out]; exact hset2, (hB.alloc hsz _).grown hg2 (by simp; omega) (fun j e => by cases e; exact Nat.le_refl _)⟩, by simp [intOf]; omega⟩
    · rw [List.take_length] at hset
      clear hl hmk hmade hB0
      go_wp2
      go_ret
      exact ⟨_, rfl, Nat.le_refl _, hset, hB⟩
end Go.Proofs
end
