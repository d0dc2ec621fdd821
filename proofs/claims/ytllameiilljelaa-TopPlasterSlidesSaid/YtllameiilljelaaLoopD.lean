import Derived.Test.YtllameiilljelaaBoundR
import Derived.Test.YtllameiilljelaaFewR
import Derived.RangeFuncNested
import Derived.RangeFuncBound
import Derived.RangeFuncCalls
import Derived.RangeFuncLeaves
import Derived.RangeFuncBox
import Derived.Shelf.Abstract
import Derived.Shelf.RegionOpen
import Derived.WalkKit
import Derived.OwnWalkIn
import Derived.TacticsInMore
import Derived.LoopNIn
import Derived.LoopIn
import Derived.Test.YtllameiilljelaaMapC
import Derived.Maps.OwnIn
import Derived.Maps.AppendAt
import Derived.Laws.ResultCell
import Derived.Scope
import Derived.ControlIn
section
/- neighbours: the iterator over a cell's six neighbours. -/
namespace Go.Proofs
open Go.RowKit Go.Shelf
set_option maxHeartbeats 8000000
set_option maxRecDepth 1000000
attribute [local go_sem] Oper.semAt_some
/-- A cell's neighbours, ascending. -/
def nearL (c : Cel) : List Cel := [(c.1 - 1, c.2.1, c.2.2), (c.1, c.2.1 - 1, c.2.2), (c.1, c.2.1, c.2.2 - 1), (c.1, c.2.1, c.2.2 + 1), (c.1, c.2.1 + 1, c.2.2), (c.1 + 1, c.2.1, c.2.2)]
def boxC (c : Cel) : Array Value := #[.int .i64 c.1, .int .i64 c.2.1, .int .i64 c.2.2]
def SameAt (B : Nat) (W W' : World) : Prop := W'.heap[B]? = W.heap[B]?
end Go.Proofs
end

section
/- Ranges over a function within a loop: the collected deferred calls, one for each round; what a round keeps. -/
namespace Go.Proofs
open Go.RowKit Go.Shelf
set_option maxHeartbeats 4000000
set_option maxRecDepth 100000
def coll (D : Nat) : Deferred := { target := .collected D, args := #[] }
/-- Blocks for deferred calls, all of them empty. -/
def Defs (W : World) (B : Nat) (Ds : List Nat) : Prop := Ds.Nodup ∧ ∀ D ∈ Ds, B ≤ D ∧ W.heap[D]? = some (.deferred (some []))
theorem Defs.nil (W : World) (B : Nat) : Defs W B [] := ⟨List.nodup_nil, fun _ h => (nomatch h)⟩
theorem Defs.lt {W : World} {B : Nat} {Ds : List Nat} (h : Defs W B Ds) {D : Nat} (hD : D ∈ Ds) : D < W.heap.size := (Array.getElem?_eq_some_iff.1 (h.2 D hD).2).1
theorem Defs.keep {W W' : World} {B : Nat} {Ds : List Nat} (h : Defs W B Ds) (hk : ∀ D ∈ Ds, W'.heap[D]? = W.heap[D]?) : Defs W' B Ds := ⟨h.1, fun D hD => ⟨(h.2 D hD).1, (hk D hD).trans (h.2 D hD).2⟩⟩
/-- What leaving a function lets be: all but some blocks. -/
structure Spent (B : Nat) (W W' : World) : Prop where
  os : W'.os = W.os
  tape : W'.tape = W.tape
  output : W'.output = W.output
  size : W'.heap.size = W.heap.size
  cells : ∀ (k : Nat) (o : Obj), W.heap[k]? = some o → o.isCells = true → W'.heap[k]? = some o
  below : ∀ k : Nat, k < B → W'.heap[k]? = W.heap[k]?
theorem Spent.refl (B : Nat) (W : World) : Spent B W W := ⟨rfl, rfl, rfl, rfl, fun _ _ h _ => h, fun _ _ => rfl⟩
theorem putObj_other (W : World) (D : Nat) (o : Obj) (k : Nat) (h : k ≠ D) : (W.putObj D o).heap[k]? = W.heap[k]? := by
  simp [World.putObj, Ne.symm h]
theorem leaves_all {F : Fence} {n : Nat} {P : Program} {fn : Func} {tmps : Array Value} {R : Ending → World → Prop} {B : Nat} : ∀ (Ds : List Nat) (W : World), Defs W B Ds → (∀ W', Spent B W W' → LeavesIn F n P fn tmps R [] .returning W') → LeavesInM F n P fn tmps R (Ds.map coll) .returning W
  | [], W, _, h => h W (Spent.refl _ _)
  | D :: Ds, W, hd, h => by
    have hD := (hd.2 D (by simp)).2
    have hnd := List.nodup_cons.1 hd.1
    refine ⟨by simp, .inl ⟨_, _, rfl, run_takeDeferred hD, ?_⟩⟩
    have hs : ∀ k, k ≠ D → (W.putObj D (.deferred none)).heap[k]? = W.heap[k]? := fun k hk => putObj_other W D _ k hk
    refine leaves_all Ds _ ⟨hnd.2, fun E hE => ⟨(hd.2 E (by simp [hE])).1, (hs E (fun e => hnd.1 (e ▸ hE))).trans (hd.2 E (by simp [hE])).2⟩⟩ fun W' hW' => h W' ?_
    refine ⟨hW'.os, hW'.tape, hW'.output, hW'.size.trans (by simp [World.putObj]), fun k o hk ho => hW'.cells k o ?_ ho, fun k hk => (hW'.below k hk).trans (hs k (by have := (hd.2 D (by simp)).1; omega))⟩
    by_cases e : k = D
    · subst e
      rw [hD] at hk
      cases hk
      cases ho
    · exact (hs k e).trans hk
/-- Cells, and all below n, as they were; the world may have grown. -/
structure Frame3 (n : Nat) (W W' : World) : Prop where
  os : W'.os = W.os
  tape : W'.tape = W.tape
  output : W'.output = W.output
  size : W.heap.size ≤ W'.heap.size
  cells : ∀ (k : Nat) (o : Obj), W.heap[k]? = some o → o.isCells = true → W'.heap[k]? = some o
  below : ∀ k : Nat, k < n → W'.heap[k]? = W.heap[k]?
theorem Frame3.refl (n : Nat) (W : World) : Frame3 n W W := ⟨rfl, rfl, rfl, Nat.le_refl _, fun _ _ h _ => h, fun _ _ => rfl⟩
/-- 'There was a world of this kind, of which this is left': it abides turns of what is no cells. -/
theorem frame_own {β : Type} {n : Nat} {C : β → World → Prop} (hn : ∀ s W, C s W → n ≤ W.heap.size) : OwnFrom n (fun (s : β) W' => ∃ W, C s W ∧ Frame3 n W W') := by
  rintro s A B row ⟨W, hC, hF⟩ hg hr
  have hlt : ∀ (k : Nat) (o : Obj), A.heap[k]? = some o → k < A.heap.size := fun k o h => (Array.getElem?_eq_some_iff.1 h).1
  refine ⟨W, hC, ⟨hg.os.trans hF.os, hg.tape.trans hF.tape, hg.output.trans hF.output, Nat.le_trans hF.size hg.size, fun k o hk ho => ?_, fun k hk => ?_⟩⟩
  · have h1 := hF.cells k o hk ho
    refine (hg.block k (hlt k o h1) fun e => ?_).trans h1
    obtain ⟨_, o', ho', hc⟩ := hr k e.symm
    rw [h1] at ho'
    cases ho'
    rw [ho] at hc
    cases hc
  · have hkA : k < A.heap.size := Nat.lt_of_lt_of_le hk (Nat.le_trans (hn s W hC) hF.size)
    refine (hg.block k hkA fun e => ?_).trans (hF.below k hk)
    have := (hr k e.symm).1
    omega
/-- A block of one cell of the document's: three numbers. -/
def Boxed3 (W : World) (B : Nat) (c : Cel) : Prop := W.heap[B]? = some (.cells #[.int .i64 c.1, .int .i64 c.2.1, .int .i64 c.2.2] 26 (0, 0))
theorem Boxed3.own {β : Type} (B : Nat) (f : β → Cel) : Go.Own (fun s W => Boxed3 W B (f s)) := fun s X Y row hs hg hrow =>
  (hg.block B (Array.getElem?_eq_some_iff.1 hs).1 (fun e' => by obtain ⟨o, ho, hc⟩ := hrow B e'.symm; rw [show X.heap[B]? = _ from hs] at ho; cases ho; cases hc)).trans hs
theorem Boxed3.cell {W : World} {B : Nat} {c : Cel} (h : Boxed3 W B c) : W.cell? ⟨B, 0, none⟩ = some (.int .i64 c.1) ∧ W.cell? ⟨B, 1, none⟩ = some (.int .i64 c.2.1) ∧ W.cell? ⟨B, 2, none⟩ = some (.int .i64 c.2.2) := by
  have zl := fun j => cell_of_row W B j _ _ _ h
  have z0 := zl 0
  have z1 := zl 1
  have z2 := zl 2
  simp at z0 z1 z2
  exact ⟨z0, z1, z2⟩
theorem cell_three_new (w : World) (c : Cel) (t : TypeId) : ∀ j u, (encC c)[j]? = some u → (w.alloc (.cells #[.int .i64 c.1, .int .i64 c.2.1, .int .i64 c.2.2] t)).cell? ((⟨w.heap.size, 0, none⟩ : Addr).add j) = some u := by
  intro j u hj
  match j, hj with
  | 0, hj => simp [encC] at hj; subst hj; simp [Addr.add]
  | 1, hj => simp [encC] at hj; subst hj; simp [Addr.add]
  | 2, hj => simp [encC] at hj; subst hj; simp [Addr.add]
section
variable {F : Fence} {nF : Nat} {w : World} {ops : Array Oper} {rest : List Oper} {o : Oper} {a : Act} {Q : Exit → Act → World → Prop}
/-- append of one cell that was just laid, in a round or under a fence. -/
theorem wpListIn_append_one (hgd : o.guard = none) (s x : Operand) (ho : o.op = .call { callee := .builtin .append, args := #[s, x], argTypes := #[22, 22] }) (B : Nat) (hB : B ≤ w.heap.size) (v : Value) (l : List Cel) (hs : a.eval s = v) (hown : Own w B v l) (c : Cel)
    (hx : a.eval x = .slice (some ⟨w.heap.size, 0, none⟩) 1 1) (hn : l.length + 1 ≤ 1000000)
    (h : ∀ v' w', Own w' B v' (l ++ [c]) → (w.alloc (.cells #[.int .i64 c.1, .int .i64 c.2.1, .int .i64 c.2.2] 26)).grownBy w' v.ownBlock → (v'.ownBlock = v.ownBlock ∨ v'.ownBlock = some (w.heap.size + 1)) → (∃ g cap, v' = .slice (some ⟨g, 0, none⟩) (l.length + 1) cap) → wpListIn F nF Try.prog ops Q rest (a.put o.dst v') w') :
    wpListIn F nF Try.prog ops Q (o :: rest) a (w.alloc (.cells #[.int .i64 c.1, .int .i64 c.2.1, .int .i64 c.2.2] 26)) := by
  obtain ⟨j0, hj, hy0, hy1, hy2⟩ := info_parts (P := Try.prog) (e := 26) (z := .agg #[.int .i64 0, .int .i64 0, .int .i64 0]) (size := 3) (bytes := 24) (by kernel_rfl)
  refine wpListIn_append_own_at _ hgd s x 22 ho B 26 j0 _ 3 24 Try.underlying22 hj hy0 hy1 hy2 rfl (by decide) v l.length (flatC l) hs (hown.alloc _) ⟨w.heap.size, 0, none⟩ 1 1 (encC c) hx rfl (cell_three_new w c _)
    (fun u hu => by simp [encC] at hu; rcases hu with rfl | rfl | rfl <;> rfl) (by unfold maxLen; omega) (by omega) (by simp; omega) (fun v' w' h1 h2 _ h4 => ?_)
  obtain ⟨g', cap', rfl⟩ := ownsRow_succ h1
  refine h _ w' ?_ h2 (by simpa using h4) ⟨g', cap', rfl⟩
  have : Own w' B (.slice (some ⟨g', 0, none⟩) (l.length + 1) cap') (l ++ [c]) := own_of h1 (by simp) (by rw [flatC_append]; simp [flatC])
  exact this
/-- A look-up in a set of cells, in a round or under a fence. -/
theorem wpListIn_lookup_set (hg : o.guard = none) (m x : Operand) (t : TypeId) (hop : o.op = Op.lookup t m x false) (ht : Try.prog.underlying t = some (.map 26 4)) (b : Nat) (l : List Cel) (hm : a.eval m = .map (some b)) (hs : CSet w b l) (c : Cel) (hx : a.eval x = cellV c) (r : Bool) (hr : decide (c ∈ l) = r)
    (h : wpListIn F nF Try.prog ops Q rest (a.put o.dst (.bool r)) w) : wpListIn F nF Try.prog ops Q (o :: rest) a w := by
  refine wpListIn_plain hg fun K hK => ?_
  have hz : (zeroValue 4).run Try.prog w = .ok (.bool false) w := by go_simp
  have hl := lookup_cells hs ht hz c false
  rw [getC_set] at hl
  have e : ((if c ∈ l then some (Value.bool true) else none : Option Value).getD (.bool false)) = .bool r := by
    subst hr
    by_cases hc : c ∈ l <;> simp [hc]
  rw [e] at hl
  simp only [Bool.false_eq_true, if_false] at hl
  unfold Oper.wpIn
  refine ⟨by simp [Oper.about, hop], ?_⟩
  rw [Oper.semAt_plain F _ _ (by rw [hop]; intro c hc'; cases hc')]
  simp [execOp, hop, hm, hx, hl, Result.andThen]
  exact hK _ _ h
end
section
variable {F : Fence} {n : Nat} {P : Program} {b : Frame} {a : Act} {k : List Item} {cs : List Frame} {w : World} {Q : Exit → Act → World → Prop}
theorem stepR_scope {c : Code} : step P (lone (b.atR a (.code (.scope c) :: k)) cs w) = .next (lone (b.atR a (.code c :: .inScope c :: k)) cs w) :=
  step_lone_go (by simp [stepG, stepG.exec, Frame.atR])
theorem stepR_inScope {c : Code} : step P (lone (b.atR a (.inScope c :: k)) cs w) = .next (lone (b.atR a k) cs w) :=
  step_lone_go (by simp [stepG, stepG.exec, Frame.atR])
theorem stepR_label {l : Nat} : step P (lone (b.atR a (.code (.label l) :: k)) cs w) = .next (lone (b.atR a k) cs w) :=
  step_lone_go (by simp [stepG, stepG.exec, Frame.atR])
/-- A scope whose labels nobody jumps to. -/
theorem wpIn_scope_straight {c : Code} (h : c.wpIn F n P (Exit.noGoto Q) a w) : (Code.scope c).wpIn F n P Q a w := by
  intro b k cs hro hb hr
  have h0 : (lone (b.atR a (.code (.scope c) :: k)) cs w).fenced P F := fenced_calm hb hr rfl
  obtain ⟨e, a₁, w₁, hq, harr⟩ := h b (.inScope c :: k) cs hro hb hr
  cases e with
  | normal => exact ⟨.normal, a₁, w₁, hq, .head h0 stepR_scope (StepsIn.trans harr (.one (fenced_calm hb hr rfl) stepR_inScope))⟩
  | exit id =>
    have hx : exitTo id (.inScope c :: k) = exitTo id k := by simp [exitTo]
    exact ⟨.exit id, a₁, w₁, hq, fun k' hk => .head h0 stepR_scope (harr.1 k' (by rw [hx]; exact hk)),
      fun hr' hk => let ⟨k₁, h1, h2⟩ := harr.2 hr' (by rw [hx]; exact hk); ⟨k₁, h1, .head h0 stepR_scope h2⟩⟩
  | goto l => exact hq.elim
  | ret => exact ⟨_, a₁, w₁, hq, .of_steps (.one h0 stepR_scope) harr⟩
  | panic ch => exact ⟨_, a₁, w₁, hq, .of_steps (.one h0 stepR_scope) harr⟩
  | outgrown => exact ⟨_, a₁, w₁, hq, .of_steps (.one h0 stepR_scope) harr⟩
theorem wpIn_label {l : Nat} (h : Q .normal a w) : (Code.label l).wpIn F n P Q a w := by
  intro b k cs hro hb hr
  exact ⟨.normal, a, w, h, .one (fenced_calm hb hr rfl) stepR_label⟩
end
end Go.Proofs
end
