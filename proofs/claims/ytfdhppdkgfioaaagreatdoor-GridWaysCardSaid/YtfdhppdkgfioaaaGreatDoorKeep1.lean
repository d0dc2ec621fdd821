import Derived.Test.YtfdhppdkgfioaaaGreatDoorPthP
import Derived.Test.YtfdhppdkgfioaaaGreatDoorPthS
section
/- Maps with cells as keys: delete, look-up with 'ok', numbers of steps. -/
namespace Go.Proofs
open Go.RowKit Go.MapKept
set_option maxHeartbeats 4000000
set_option maxRecDepth 100000
/-- The table without a cell. -/
def delC (c : Cel) : List (Cel × Value) → List (Cel × Value)
  | [] => []
  | p :: l => if c = p.1 then l else p :: delC c l
theorem find_del (c : Cel) (w : World) : ∀ (es : List MapEntry) (l : List (Cel × Value)) (i : Nat), es.map (fun e => (e.key, e.val)) = l.map (fun p => (cellV p.1, p.2)) →
    (delC c l = l ∧ (Instr.findAsking 24 (cellV c) es i).run Tryz.prog w = .ok none w) ∨
    ∃ j v, j < es.length ∧ (Instr.findAsking 24 (cellV c) es i).run Tryz.prog w = .ok (some (i + j, v)) w ∧ delC c l = l.eraseIdx j
  | [], [], i, _ => .inl ⟨rfl, by simp [Instr.findAsking]⟩
  | e :: es, p :: l, i, h => by
    simp only [List.map_cons, List.cons.injEq, Prod.mk.injEq] at h
    obtain ⟨⟨h1, h2⟩, h3⟩ := h
    by_cases hc : c = p.1
    · right
      refine ⟨0, p.2, by simp, ?_, by simp [delC, hc]⟩
      simp [Instr.findAsking, h1, equal_cells, hc, h2]
    · rcases find_del c w es l (i + 1) h3 with ⟨g1, g2⟩ | ⟨j, v, g1, g2, g3⟩
      · left
        refine ⟨by simp [delC, hc, g1], ?_⟩
        simp [Instr.findAsking, h1, equal_cells, hc, g2]
      · right
        refine ⟨j + 1, v, by simpa using g1, ?_, by simp [delC, hc, g3]⟩
        simp [Instr.findAsking, h1, equal_cells, hc, g2, Nat.add_assoc, Nat.add_comm 1 j]
  | [], _ :: _, _, h => by simp at h
  | _ :: _, [], _, h => by simp at h
theorem map_eraseIdx' {α β : Type} (f : α → β) : ∀ (l : List α) (j : Nat), (l.eraseIdx j).map f = (l.map f).eraseIdx j
  | [], j => by simp
  | x :: l, 0 => by simp
  | x :: l, j + 1 => by simpa using map_eraseIdx' f l j
theorem mem_eraseIdx' {α : Type} {x : α} : ∀ {l : List α} {j : Nat}, x ∈ l.eraseIdx j → x ∈ l
  | [], j, h => by simp at h
  | y :: l, 0, h => by simp at h; exact .tail _ h
  | y :: l, j + 1, h => by
    simp at h
    rcases h with rfl | h
    · exact .head _
    · exact .tail _ (mem_eraseIdx' h)
theorem nodup_eraseIdx' {α : Type} : ∀ {l : List α} {j : Nat}, l.Nodup → (l.eraseIdx j).Nodup
  | [], j, h => by simp
  | y :: l, 0, h => by simpa using (List.nodup_cons.1 h).2
  | y :: l, j + 1, h => by
    obtain ⟨h1, h2⟩ := List.nodup_cons.1 h
    rw [List.eraseIdx_cons_succ]
    exact List.nodup_cons.2 ⟨fun h3 => h1 (mem_eraseIdx' h3), nodup_eraseIdx' h2⟩
theorem delete_cells {w : World} {b : Nat} {l : List (Cel × Value)} (h : CMap w b l) {t e ty : TypeId} (ht : Tryz.prog.underlying t = some (.map 24 e)) (c : Cel) :
    ∃ w', (Builtin.delete_ #[t, 24] ty #[.map (some b), cellV c]).run Tryz.prog w = .ok (.tuple #[]) w' ∧ CMap w' b (delC c l) ∧ w.grownBy w' (some b) := by
  obtain ⟨es, clock, hb, hm, hborn, hnd⟩ := h
  rcases find_del c w es.toList l 0 hm with ⟨g1, g2⟩ | ⟨j, u, g1, g2, g3⟩
  · refine ⟨_, by simp [Builtin.delete_, run_underlying ht, MapKept.run_getObj_map hb, check_cell, findKey_cells, g2, Result.andThen, MapKept.run_setObj_map _ hb]; rfl, ⟨_, _, (heap_set hb).1, by rw [g1]; exact hm, hborn, hnd⟩, grown_setBlock (.inl rfl) b _⟩
  · refine ⟨_, by simp [Builtin.delete_, run_underlying ht, MapKept.run_getObj_map hb, check_cell, findKey_cells, g2, Result.andThen, MapKept.run_setObj_map _ hb]; rfl, ⟨_, _, (heap_set hb).1, ?_, ?_, ?_⟩, grown_setBlock (.inl rfl) b _⟩
    · rw [g3, Array.toList_eraseIdxIfInBounds, map_eraseIdx', hm, map_eraseIdx']
    · intro x hx
      rw [Array.toList_eraseIdxIfInBounds] at hx
      exact hborn x (mem_eraseIdx' hx)
    · rw [Array.toList_eraseIdxIfInBounds, map_eraseIdx']
      exact nodup_eraseIdx' hnd
theorem delC_set (c : Cel) : ∀ l : List Cel, delC c (l.map fun d => (d, Value.bool true)) = (l.erase c).map fun d => (d, Value.bool true)
  | [] => rfl
  | d :: l => by
    have ih := delC_set c l
    by_cases h : c = d
    · subst h
      simp [delC]
    · have h2 : (d == c) = false := by simpa using fun e => h e.symm
      simp [delC, h, h2, ih]
theorem delete_set {w : World} {b : Nat} {l : List Cel} (h : CSet w b l) (hnd : l.Nodup) {ty : TypeId} (c : Cel) :
    ∃ w', (Builtin.delete_ #[157, 24] ty #[.map (some b), cellV c]).run Tryz.prog w = .ok (.tuple #[]) w' ∧ (∃ l', CSet w' b l' ∧ l'.Nodup ∧ ∀ d, d ∈ l' ↔ d ∈ l ∧ d ≠ c) ∧ w.grownBy w' (some b) := by
  obtain ⟨w', h1, h2, h3⟩ := delete_cells h (ty := ty) Tryz.underlying157 c
  rw [delC_set] at h2
  exact ⟨w', h1, ⟨_, h2, hnd.erase c, fun d => by rw [hnd.mem_erase_iff]; exact And.comm⟩, h3⟩
/-- A table of steps. -/
def Steps (w : World) (b : Nat) (st : Cel → Option Nat) : Prop := ∃ l, CMap w b l ∧ ∀ c, getC c l = (st c).map fun n => .int .i64 (n : Int)
theorem Steps.keep {w w' : World} {b : Nat} {st : Cel → Option Nat} (h : Steps w b st) (hb : w'.heap[b]? = w.heap[b]?) : Steps w' b st := by
  obtain ⟨l, h1, h2⟩ := h
  exact ⟨l, h1.keep hb, h2⟩
theorem Steps.lt {w : World} {b : Nat} {st : Cel → Option Nat} (h : Steps w b st) : b < w.heap.size := by
  obtain ⟨l, h1, _⟩ := h
  exact h1.lt
theorem Steps.made (w : World) : Steps (w.alloc (.map #[] 0)) w.heap.size fun _ => none := ⟨[], CMap.made w, fun _ => rfl⟩
theorem getC_put (c d : Cel) (v : Value) : ∀ l : List (Cel × Value), getC d (putC c v l) = if d = c then some v else getC d l
  | [] => by
    by_cases h : d = c <;> simp [putC, getC, h]
  | p :: l => by
    have ih := getC_put c d v l
    by_cases h : c = p.1
    · by_cases h2 : d = c
      · subst h2
        simp [putC, getC, h]
      · have h3 : d ≠ p.1 := fun e => h2 (e.trans h.symm)
        simp [putC, getC, h, h3]
    · by_cases h2 : d = p.1
      · have h3 : d ≠ c := fun e => h (e.symm.trans h2)
        subst h2
        simp [putC, getC, h, h3]
      · simp [putC, getC, h, h2, ih]
theorem run_makeMap_new (t : TypeId) (w : World) : (Instr.makeMap t none).run Tryz.prog w = .ok (.map (some w.heap.size)) (w.alloc (.map #[] 0)) := by
  simp [Instr.makeMap, Result.andThen]
def putSt (c : Cel) (n : Nat) (st : Cel → Option Nat) : Cel → Option Nat := fun d => if d = c then some n else st d
theorem putSt_here (c : Cel) (n : Nat) (st : Cel → Option Nat) : putSt c n st c = some n := by simp [putSt]
theorem putSt_other {c d : Cel} (h : d ≠ c) (n : Nat) (st : Cel → Option Nat) : putSt c n st d = st d := by simp [putSt, h]
theorem update_steps {w : World} {b : Nat} {st : Cel → Option Nat} (h : Steps w b st) {t e : TypeId} (ht : Tryz.prog.underlying t = some (.map 24 e)) (c : Cel) (n : Nat) :
    ∃ w', (Instr.mapUpdate t (.map (some b)) (cellV c) (.int .i64 n)).run Tryz.prog w = .ok () w' ∧ Steps w' b (putSt c n st) ∧ w.grownBy w' (some b) := by
  obtain ⟨l, h1, h2⟩ := h
  obtain ⟨w', g1, g2, g3⟩ := update_cells h1 ht c (.int .i64 n)
  refine ⟨w', g1, ⟨_, g2, fun d => ?_⟩, g3⟩
  rw [getC_put, h2]
  by_cases hd : d = c
  · simp [putSt, hd]
  · simp [putSt, hd]
theorem look_some {w : World} {b n : Nat} {st : Cel → Option Nat} (h : Steps w b st) {c : Cel} (hc : st c = some n) (ck : Bool) :
    (Instr.lookup 95 (.map (some b)) (cellV c) ck).run Tryz.prog w = .ok (if ck then .tuple #[.int .i64 n, .bool true] else .int .i64 n) w := by
  obtain ⟨l, h1, h2⟩ := h
  have hz : (zeroValue 3).run Tryz.prog w = .ok (.int .i64 0) w := by go_simp
  have h3 := lookup_cells h1 Tryz.underlying95 hz c ck
  rw [h2 c, hc] at h3
  exact h3
theorem look_none {w : World} {b : Nat} {st : Cel → Option Nat} (h : Steps w b st) {c : Cel} (hc : st c = none) (ck : Bool) :
    (Instr.lookup 95 (.map (some b)) (cellV c) ck).run Tryz.prog w = .ok (if ck then .tuple #[.int .i64 0, .bool false] else .int .i64 0) w := by
  obtain ⟨l, h1, h2⟩ := h
  have hz : (zeroValue 3).run Tryz.prog w = .ok (.int .i64 0) w := by go_simp
  have h3 := lookup_cells h1 Tryz.underlying95 hz c ck
  rw [h2 c, hc] at h3
  exact h3
theorem look_set {w : World} {b : Nat} {l : List Cel} (hs : CSet w b l) (c : Cel) (r : Bool) (hr : decide (c ∈ l) = r) : (Instr.lookup 157 (.map (some b)) (cellV c) false).run Tryz.prog w = .ok (.bool r) w := by
  have hz : (zeroValue 4).run Tryz.prog w = .ok (.bool false) w := by go_simp
  have hl := lookup_cells hs Tryz.underlying157 hz c false
  rw [getC_set] at hl
  have e : ((if c ∈ l then some (Value.bool true) else none : Option Value).getD (.bool false)) = .bool r := by
    subst hr
    by_cases hc : c ∈ l <;> simp [hc]
  rw [e] at hl
  simpa using hl
section
variable {F : Fence} {nF : Nat} {w : World} {ops : Array Oper} {rest : List Oper} {o : Oper} {a : Act} {Q : Exit → Act → World → Prop}
theorem wpList_delete_set (hg : o.guard = none) (m x : Operand) (hop : o.op = Op.call { callee := Callee.builtin Builtin.delete, args := #[m, x], argTypes := #[157, 24] }) (b : Nat) (l : List Cel) (hm : a.eval m = .map (some b)) (hs : CSet w b l) (hnd : l.Nodup) (c : Cel) (hx : a.eval x = cellV c)
    (h : ∀ w' l', CSet w' b l' → l'.Nodup → (∀ d, d ∈ l' ↔ d ∈ l ∧ d ≠ c) → w.grownBy w' (some b) → wpList Tryz.prog ops Q rest (a.put o.dst (.tuple #[])) w') : wpList Tryz.prog ops Q (o :: rest) a w := by
  refine wpList_plain hg fun K hK => ?_
  obtain ⟨w', h1, ⟨l', h2, h3, h4⟩, h5⟩ := delete_set hs hnd (ty := o.type) c
  unfold Oper.wp
  simp [execOp, hop, resolve, invoke, builtin, hm, hx, h1, Result.andThen]
  exact hK _ _ (h w' l' h2 h3 h4 h5)
theorem wpList_lookup_ok (hg : o.guard = none) (m x : Operand) (hop : o.op = Op.lookup 95 m x true) (b : Nat) (st : Cel → Option Nat) (hm : a.eval m = .map (some b)) (hs : Steps w b st) (c : Cel) (hx : a.eval x = cellV c)
    (h1 : ∀ n, st c = some n → wpList Tryz.prog ops Q rest (a.put o.dst (.tuple #[.int .i64 n, .bool true])) w) (h2 : st c = none → wpList Tryz.prog ops Q rest (a.put o.dst (.tuple #[.int .i64 0, .bool false])) w) : wpList Tryz.prog ops Q (o :: rest) a w := by
  refine wpList_plain hg fun K hK => ?_
  unfold Oper.wp
  cases hc : st c with
  | some n =>
    simp [execOp, hop, hm, hx, look_some hs hc true, Result.andThen]
    exact hK _ _ (h1 n hc)
  | none =>
    simp [execOp, hop, hm, hx, look_none hs hc true, Result.andThen]
    exact hK _ _ (h2 hc)
theorem wpListIn_lookup_some (hg : o.guard = none) (m x : Operand) (hop : o.op = Op.lookup 95 m x true) (b : Nat) (st : Cel → Option Nat) (hm : a.eval m = .map (some b)) (hs : Steps w b st) (c : Cel) (hx : a.eval x = cellV c) (n : Nat) (hc : st c = some n)
    (h : wpListIn F nF Tryz.prog ops Q rest (a.put o.dst (.tuple #[.int .i64 n, .bool true])) w) : wpListIn F nF Tryz.prog ops Q (o :: rest) a w := by
  refine wpListIn_plain hg fun K hK => ?_
  unfold Oper.wpIn
  refine ⟨by simp [Oper.about, hop], ?_⟩
  rw [Oper.semAt_plain F _ _ (by rw [hop]; intro c hc'; cases hc')]
  simp [execOp, hop, hm, hx, look_some hs hc true, Result.andThen]
  exact hK _ _ h
theorem wpListIn_lookup_none (hg : o.guard = none) (m x : Operand) (hop : o.op = Op.lookup 95 m x true) (b : Nat) (st : Cel → Option Nat) (hm : a.eval m = .map (some b)) (hs : Steps w b st) (c : Cel) (hx : a.eval x = cellV c) (hc : st c = none)
    (h : wpListIn F nF Tryz.prog ops Q rest (a.put o.dst (.tuple #[.int .i64 0, .bool false])) w) : wpListIn F nF Tryz.prog ops Q (o :: rest) a w := by
  refine wpListIn_plain hg fun K hK => ?_
  unfold Oper.wpIn
  refine ⟨by simp [Oper.about, hop], ?_⟩
  rw [Oper.semAt_plain F _ _ (by rw [hop]; intro c hc'; cases hc')]
  simp [execOp, hop, hm, hx, look_none hs hc true, Result.andThen]
  exact hK _ _ h
theorem wpListIn_lookup_steps (hg : o.guard = none) (m x : Operand) (hop : o.op = Op.lookup 95 m x false) (b : Nat) (st : Cel → Option Nat) (hm : a.eval m = .map (some b)) (hs : Steps w b st) (c : Cel) (hx : a.eval x = cellV c) (n : Nat) (hc : st c = some n)
    (h : wpListIn F nF Tryz.prog ops Q rest (a.put o.dst (.int .i64 n)) w) : wpListIn F nF Tryz.prog ops Q (o :: rest) a w := by
  refine wpListIn_plain hg fun K hK => ?_
  unfold Oper.wpIn
  refine ⟨by simp [Oper.about, hop], ?_⟩
  rw [Oper.semAt_plain F _ _ (by rw [hop]; intro c hc'; cases hc')]
  simp [execOp, hop, hm, hx, look_some hs hc false, Result.andThen]
  exact hK _ _ h
theorem wpListIn_insert_steps (hg : o.guard = none) (m x v : Operand) (hop : o.op = Op.insert 95 m x v) (b : Nat) (st : Cel → Option Nat) (hm : a.eval m = .map (some b)) (hs : Steps w b st) (c : Cel) (hx : a.eval x = cellV c) (n : Nat) (hv : a.eval v = .int .i64 n)
    (h : ∀ w', Steps w' b (putSt c n st) → w.grownBy w' (some b) → wpListIn F nF Tryz.prog ops Q rest (a.put o.dst undef) w') : wpListIn F nF Tryz.prog ops Q (o :: rest) a w := by
  refine wpListIn_plain hg fun K hK => ?_
  obtain ⟨w', h1, h2, h3⟩ := update_steps hs Tryz.underlying95 c n
  unfold Oper.wpIn
  refine ⟨by simp [Oper.about, hop], ?_⟩
  rw [Oper.semAt_plain F _ _ (by rw [hop]; intro c hc'; cases hc')]
  simp [execOp, hop, hm, hx, hv, h1, Result.andThen]
  exact hK _ _ (h w' h2 h3)
theorem wpList_update_steps (hg : o.guard = none) (m x v : Operand) (hop : o.op = Op.mapUpdate 95 m x v) (b : Nat) (st : Cel → Option Nat) (hm : a.eval m = .map (some b)) (hs : Steps w b st) (c : Cel) (hx : a.eval x = cellV c) (n : Nat) (hv : a.eval v = .int .i64 n)
    (h : ∀ w', Steps w' b (putSt c n st) → w.grownBy w' (some b) → wpList Tryz.prog ops Q rest (a.put o.dst undef) w') : wpList Tryz.prog ops Q (o :: rest) a w := by
  refine wpList_plain hg fun K hK => ?_
  obtain ⟨w', h1, h2, h3⟩ := update_steps hs Tryz.underlying95 c n
  unfold Oper.wp
  simp [execOp, hop, hm, hx, hv, h1, Result.andThen]
  exact hK _ _ (h w' h2 h3)
theorem wpListIn_update_steps (hg : o.guard = none) (m x v : Operand) (hop : o.op = Op.mapUpdate 95 m x v) (b : Nat) (st : Cel → Option Nat) (hm : a.eval m = .map (some b)) (hs : Steps w b st) (c : Cel) (hx : a.eval x = cellV c) (n : Nat) (hv : a.eval v = .int .i64 n)
    (h : ∀ w', Steps w' b (putSt c n st) → w.grownBy w' (some b) → wpListIn F nF Tryz.prog ops Q rest (a.put o.dst undef) w') : wpListIn F nF Tryz.prog ops Q (o :: rest) a w := by
  refine wpListIn_plain hg fun K hK => ?_
  obtain ⟨w', h1, h2, h3⟩ := update_steps hs Tryz.underlying95 c n
  unfold Oper.wpIn
  refine ⟨by simp [Oper.about, hop], ?_⟩
  rw [Oper.semAt_plain F _ _ (by rw [hop]; intro c hc'; cases hc')]
  simp [execOp, hop, hm, hx, hv, h1, Result.andThen]
  exact hK _ _ (h w' h2 h3)
end
end Go.Proofs
end

section
/- A store into a set of cells under a fence; all but one block as it was. -/
namespace Go.Proofs
open Go.RowKit Go.Shelf
set_option maxHeartbeats 16000000
set_option maxRecDepth 1000000
attribute [local go_sem] Oper.semAt_some
section
variable {F : Fence} {nF : Nat} {w : World} {ops : Array Oper} {rest : List Oper} {o : Oper} {a : Act} {Q : Exit → Act → World → Prop}
/-- A store into a set of cells, in a round or under a fence. -/
theorem wpListIn_update_set (hg : o.guard = none) (m x v : Operand) (t : TypeId) (hop : o.op = Op.mapUpdate t m x v) (ht : Tryz.prog.underlying t = some (.map 24 4)) (b : Nat) (l : List Cel) (hm : a.eval m = .map (some b)) (hs : CSet w b l) (c : Cel) (hx : a.eval x = cellV c) (hv : a.eval v = .bool true)
    (h : ∀ w', CSet w' b (addC c l) → w.grownBy w' (some b) → wpListIn F nF Tryz.prog ops Q rest (a.put o.dst undef) w') : wpListIn F nF Tryz.prog ops Q (o :: rest) a w := by
  refine wpListIn_plain hg fun K hK => ?_
  obtain ⟨w', h1, h2, h3⟩ := update_cells hs ht c (.bool true)
  rw [putC_set] at h2
  unfold Oper.wpIn
  refine ⟨by simp [Oper.about, hop], ?_⟩
  rw [Oper.semAt_plain F _ _ (by rw [hop]; intro c hc'; cases hc')]
  simp [execOp, hop, hm, hx, hv, h1, Result.andThen]
  exact hK _ _ (h w' h2 h3)
end
/-- All below B but one block is as it was. -/
structure Keep1 (B b : Nat) (W W' : World) : Prop where
  os : W'.os = W.os
  tape : W'.tape = W.tape
  output : W'.output = W.output
  size : W.heap.size ≤ W'.heap.size
  block : ∀ k : Nat, k < B → k ≠ b → W'.heap[k]? = W.heap[k]?
theorem Keep1.refl (B b : Nat) (W : World) : Keep1 B b W W := ⟨rfl, rfl, rfl, Nat.le_refl _, fun _ _ _ => rfl⟩
theorem Keep1.trans {B b : Nat} {X Y Z : World} (h : Keep1 B b X Y) (k : Keep1 B b Y Z) : Keep1 B b X Z := ⟨k.os.trans h.os, k.tape.trans h.tape, k.output.trans h.output, Nat.le_trans h.size k.size, fun i h1 h2 => (k.block i h1 h2).trans (h.block i h1 h2)⟩
theorem Keep1.of_below {B b : Nat} {X Y : World} (h : Below B X Y) : Keep1 B b X Y := ⟨h.os, h.tape, h.output, h.size, fun i h1 _ => h.block i h1⟩
theorem Keep1.of_grown {B b : Nat} {X Y : World} {row : Option Nat} (hg : X.grownBy Y row) (hB : B ≤ X.heap.size) (hr : ∀ k, row = some k → k = b ∨ B ≤ k) : Keep1 B b X Y := ⟨hg.os, hg.tape, hg.output, hg.size, fun i h1 h2 => hg.block i (by omega) fun e => by
  rcases hr i e.symm with h | h
  · exact h2 h
  · omega⟩
theorem sl_keep1 {W W' : World} {B b : Nat} {v : Value} {l : List Cel} {S : List Cel} (hs : CSet W b S) (h : Sl W v l) (hB : W.heap.size ≤ B) (hk : Keep1 B b W W') : Sl W' v l := by
  rcases h with h | ⟨ad, cap, rfl, h⟩
  · exact .inl h
  · refine .inr ⟨ad, cap, rfl, fun h0 => ?_⟩
    obtain ⟨h1, h2, h3⟩ := h h0
    have hne : ad.block ≠ b := fun e => by
      obtain ⟨es, clock, q, _⟩ := hs
      obtain ⟨c, hc⟩ := List.exists_mem_of_ne_nil l h0
      obtain ⟨i, hi⟩ := List.mem_iff_getElem?.1 hc
      have := (h3 i c hi).1
      rw [e] at this
      simp [World.cell?, q] at this
    have hblk := hk.block _ (Nat.lt_of_lt_of_le h2 hB) hne
    refine ⟨h1, Nat.lt_of_lt_of_le h2 hk.size, fun i c hi => ?_⟩
    obtain ⟨r0, r1, r2⟩ := h3 i c hi
    exact ⟨(World.cell?_of_block (a := ⟨ad.block, _, none⟩) hblk).trans r0, (World.cell?_of_block (a := ⟨ad.block, _, none⟩) hblk).trans r1, (World.cell?_of_block (a := ⟨ad.block, _, none⟩) hblk).trans r2⟩
theorem below_alloc (W : World) (o : Obj) : Below W.heap.size W (W.alloc o) := (Below.refl _ _).alloc (Nat.le_refl _) _
end Go.Proofs
end
