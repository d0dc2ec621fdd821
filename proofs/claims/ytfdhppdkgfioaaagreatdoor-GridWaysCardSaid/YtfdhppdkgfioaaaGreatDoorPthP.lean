import Derived.Test.YtfdhppdkgfioaaaGreatDoorMapC
import Derived.RangeFuncLeaves
import Derived.Maps.OwnIn
import Derived.Maps.AppendAt
import Derived.RangeFuncNested
import Derived.Laws.ResultCell
import Derived.Scope
import Derived.ControlIn
import Derived.Test.YtfdhppdkgfioaaaGreatDoorProg
section
/- Ranges over a function within a loop: the collected deferred calls, one for each round; what a round keeps. -/
namespace Go.Proofs
open Go.RowKit Go.Shelf
set_option maxHeartbeats 4000000
set_option maxRecDepth 100000
def coll (D : Nat) : Deferred := { target := .collected D, args := #[] }
/-- Blocks for deferred calls, all of them empty. -/
def Defs (W : World) (B : Nat) (Ds : List Nat) : Prop := Ds.Nodup ∧ ∀ D ∈ Ds, B ≤ D ∧ W.heap[D]? = some (.deferred (some []))
theorem Defs.nil (W : World) (B : Nat) : Defs W B [] := ⟨List.nodup_nil, fun _ h => (nomatch h)⟩
theorem Defs.lt {W : World} {B : Nat} {Ds : List Nat} (h : Defs W B Ds) {D : Nat} (hD : D ∈ Ds) : D < W.heap.size := (Array.getElem?_eq_some_iff.1 (h.2 D hD).2).1
theorem Defs.keep {W W' : World} {B : Nat} {Ds : List Nat} (h : Defs W B Ds) (hk : ∀ D ∈ Ds, W'.heap[D]? = W.heap[D]?) : Defs W' B Ds := ⟨h.1, fun D hD => ⟨(h.2 D hD).1, (hk D hD).trans (h.2 D hD).2⟩⟩
/-- What leaving a function lets be: all but some blocks. -/
structure Spent (B : Nat) (W W' : World) : Prop where
  os : W'.os = W.os
  tape : W'.tape = W.tape
  output : W'.output = W.output
  size : W'.heap.size = W.heap.size
  cells : ∀ (k : Nat) (o : Obj), W.heap[k]? = some o → o.isCells = true → W'.heap[k]? = some o
  below : ∀ k : Nat, k < B → W'.heap[k]? = W.heap[k]?
theorem Spent.refl (B : Nat) (W : World) : Spent B W W := ⟨rfl, rfl, rfl, rfl, fun _ _ h _ => h, fun _ _ => rfl⟩
theorem putObj_other (W : World) (D : Nat) (o : Obj) (k : Nat) (h : k ≠ D) : (W.putObj D o).heap[k]? = W.heap[k]? := by
  simp [World.putObj, Ne.symm h]
theorem leaves_all {F : Fence} {n : Nat} {P : Program} {fn : Func} {tmps : Array Value} {R : Ending → World → Prop} {B : Nat} : ∀ (Ds : List Nat) (W : World), Defs W B Ds → (∀ W', Spent B W W' → LeavesIn F n P fn tmps R [] .returning W') → LeavesInM F n P fn tmps R (Ds.map coll) .returning W
  | [], W, _, h => h W (Spent.refl _ _)
  | D :: Ds, W, hd, h => by
    have hD := (hd.2 D (by simp)).2
    have hnd := List.nodup_cons.1 hd.1
    refine ⟨by simp, .inl ⟨_, _, rfl, run_takeDeferred hD, ?_⟩⟩
    have hs : ∀ k, k ≠ D → (W.putObj D (.deferred none)).heap[k]? = W.heap[k]? := fun k hk => putObj_other W D _ k hk
    refine leaves_all Ds _ ⟨hnd.2, fun E hE => ⟨(hd.2 E (by simp [hE])).1, (hs E (fun e => hnd.1 (e ▸ hE))).trans (hd.2 E (by simp [hE])).2⟩⟩ fun W' hW' => h W' ?_
    refine ⟨hW'.os, hW'.tape, hW'.output, hW'.size.trans (by simp [World.putObj]), fun k o hk ho => hW'.cells k o ?_ ho, fun k hk => (hW'.below k hk).trans (hs k (by have := (hd.2 D (by simp)).1; omega))⟩
    by_cases e : k = D
    · subst e
      rw [hD] at hk
      cases hk
      cases ho
    · exact (hs k e).trans hk
/-- Cells, and all below n, as they were; the world may have grown. -/
structure Frame3 (n : Nat) (W W' : World) : Prop where
  os : W'.os = W.os
  tape : W'.tape = W.tape
  output : W'.output = W.output
  size : W.heap.size ≤ W'.heap.size
  cells : ∀ (k : Nat) (o : Obj), W.heap[k]? = some o → o.isCells = true → W'.heap[k]? = some o
  below : ∀ k : Nat, k < n → W'.heap[k]? = W.heap[k]?
theorem Frame3.refl (n : Nat) (W : World) : Frame3 n W W := ⟨rfl, rfl, rfl, Nat.le_refl _, fun _ _ h _ => h, fun _ _ => rfl⟩
/-- 'There was a world of this kind, of which this is left': it abides turns of what is no cells. -/
theorem frame_own {β : Type} {n : Nat} {C : β → World → Prop} (hn : ∀ s W, C s W → n ≤ W.heap.size) : OwnFrom n (fun (s : β) W' => ∃ W, C s W ∧ Frame3 n W W') := by
  rintro s A B row ⟨W, hC, hF⟩ hg hr
  have hlt : ∀ (k : Nat) (o : Obj), A.heap[k]? = some o → k < A.heap.size := fun k o h => (Array.getElem?_eq_some_iff.1 h).1
  refine ⟨W, hC, ⟨hg.os.trans hF.os, hg.tape.trans hF.tape, hg.output.trans hF.output, Nat.le_trans hF.size hg.size, fun k o hk ho => ?_, fun k hk => ?_⟩⟩
  · have h1 := hF.cells k o hk ho
    refine (hg.block k (hlt k o h1) fun e => ?_).trans h1
    obtain ⟨_, o', ho', hc⟩ := hr k e.symm
    rw [h1] at ho'
    cases ho'
    rw [ho] at hc
    cases hc
  · have hkA : k < A.heap.size := Nat.lt_of_lt_of_le hk (Nat.le_trans (hn s W hC) hF.size)
    refine (hg.block k hkA fun e => ?_).trans (hF.below k hk)
    have := (hr k e.symm).1
    omega
/-- A block of one cell of the document's: three numbers. -/
def Boxed3 (W : World) (B : Nat) (c : Cel) : Prop := W.heap[B]? = some (.cells #[.int .i64 c.1, .int .i64 c.2.1, .int .i64 c.2.2] 24 (0, 0))
theorem Boxed3.own {β : Type} (B : Nat) (f : β → Cel) : Go.Own (fun s W => Boxed3 W B (f s)) := fun s X Y row hs hg hrow =>
  (hg.block B (Array.getElem?_eq_some_iff.1 hs).1 (fun e' => by obtain ⟨o, ho, hc⟩ := hrow B e'.symm; rw [show X.heap[B]? = _ from hs] at ho; cases ho; cases hc)).trans hs
theorem Boxed3.cell {W : World} {B : Nat} {c : Cel} (h : Boxed3 W B c) : W.cell? ⟨B, 0, none⟩ = some (.int .i64 c.1) ∧ W.cell? ⟨B, 1, none⟩ = some (.int .i64 c.2.1) ∧ W.cell? ⟨B, 2, none⟩ = some (.int .i64 c.2.2) := by
  have zl := fun j => cell_of_row W B j _ _ _ h
  have z0 := zl 0
  have z1 := zl 1
  have z2 := zl 2
  simp at z0 z1 z2
  exact ⟨z0, z1, z2⟩
theorem cell_three_new (w : World) (c : Cel) (t : TypeId) : ∀ j u, (encC c)[j]? = some u → (w.alloc (.cells #[.int .i64 c.1, .int .i64 c.2.1, .int .i64 c.2.2] t)).cell? ((⟨w.heap.size, 0, none⟩ : Addr).add j) = some u := by
  intro j u hj
  match j, hj with
  | 0, hj => simp [encC] at hj; subst hj; simp [Addr.add]
  | 1, hj => simp [encC] at hj; subst hj; simp [Addr.add]
  | 2, hj => simp [encC] at hj; subst hj; simp [Addr.add]
section
variable {F : Fence} {nF : Nat} {w : World} {ops : Array Oper} {rest : List Oper} {o : Oper} {a : Act} {Q : Exit → Act → World → Prop}
/-- append of one cell that was just laid, in a round or under a fence. -/
theorem wpListIn_append_one (hgd : o.guard = none) (s x : Operand) (ho : o.op = .call { callee := .builtin .append, args := #[s, x], argTypes := #[22, 22] }) (B : Nat) (hB : B ≤ w.heap.size) (v : Value) (l : List Cel) (hs : a.eval s = v) (hown : Own w B v l) (c : Cel)
    (hx : a.eval x = .slice (some ⟨w.heap.size, 0, none⟩) 1 1) (hn : l.length + 1 ≤ 1000000)
    (h : ∀ v' w', Own w' B v' (l ++ [c]) → (w.alloc (.cells #[.int .i64 c.1, .int .i64 c.2.1, .int .i64 c.2.2] 24)).grownBy w' v.ownBlock → (v'.ownBlock = v.ownBlock ∨ v'.ownBlock = some (w.heap.size + 1)) → (∃ g cap, v' = .slice (some ⟨g, 0, none⟩) (l.length + 1) cap) → wpListIn F nF Tryz.prog ops Q rest (a.put o.dst v') w') :
    wpListIn F nF Tryz.prog ops Q (o :: rest) a (w.alloc (.cells #[.int .i64 c.1, .int .i64 c.2.1, .int .i64 c.2.2] 24)) := by
  obtain ⟨j0, hj, hy0, hy1, hy2⟩ := info_parts (P := Tryz.prog) (e := 24) (z := .agg #[.int .i64 0, .int .i64 0, .int .i64 0]) (size := 3) (bytes := 24) (by kernel_rfl)
  refine wpListIn_append_own_at _ hgd s x 22 ho B 24 j0 _ 3 24 Tryz.underlying22 hj hy0 hy1 hy2 rfl (by decide) v l.length (flatC l) hs (hown.alloc _) ⟨w.heap.size, 0, none⟩ 1 1 (encC c) hx rfl (cell_three_new w c _)
    (fun u hu => by simp [encC] at hu; rcases hu with rfl | rfl | rfl <;> rfl) (by unfold maxLen; omega) (by omega) (by simp; omega) (fun v' w' h1 h2 _ h4 => ?_)
  obtain ⟨g', cap', rfl⟩ := ownsRow_succ h1
  refine h _ w' ?_ h2 (by simpa using h4) ⟨g', cap', rfl⟩
  have : Own w' B (.slice (some ⟨g', 0, none⟩) (l.length + 1) cap') (l ++ [c]) := own_of h1 (by simp) (by rw [flatC_append]; simp [flatC])
  exact this
/-- A look-up in a set of cells, in a round or under a fence. -/
theorem wpListIn_lookup_set (hg : o.guard = none) (m x : Operand) (t : TypeId) (hop : o.op = Op.lookup t m x false) (ht : Tryz.prog.underlying t = some (.map 24 4)) (b : Nat) (l : List Cel) (hm : a.eval m = .map (some b)) (hs : CSet w b l) (c : Cel) (hx : a.eval x = cellV c) (r : Bool) (hr : decide (c ∈ l) = r)
    (h : wpListIn F nF Tryz.prog ops Q rest (a.put o.dst (.bool r)) w) : wpListIn F nF Tryz.prog ops Q (o :: rest) a w := by
  refine wpListIn_plain hg fun K hK => ?_
  have hz : (zeroValue 4).run Tryz.prog w = .ok (.bool false) w := by go_simp
  have hl := lookup_cells hs ht hz c false
  rw [getC_set] at hl
  have e : ((if c ∈ l then some (Value.bool true) else none : Option Value).getD (.bool false)) = .bool r := by
    subst hr
    by_cases hc : c ∈ l <;> simp [hc]
  rw [e] at hl
  simp only [Bool.false_eq_true, if_false] at hl
  unfold Oper.wpIn
  refine ⟨by simp [Oper.about, hop], ?_⟩
  rw [Oper.semAt_plain F _ _ (by rw [hop]; intro c hc'; cases hc')]
  simp [execOp, hop, hm, hx, hl, Result.andThen]
  exact hK _ _ h
end
section
variable {F : Fence} {n : Nat} {P : Program} {b : Frame} {a : Act} {k : List Item} {cs : List Frame} {w : World} {Q : Exit → Act → World → Prop}
theorem stepR_scope {c : Code} : step P (lone (b.atR a (.code (.scope c) :: k)) cs w) = .next (lone (b.atR a (.code c :: .inScope c :: k)) cs w) :=
  step_lone_go (by simp [stepG, stepG.exec, Frame.atR])
theorem stepR_inScope {c : Code} : step P (lone (b.atR a (.inScope c :: k)) cs w) = .next (lone (b.atR a k) cs w) :=
  step_lone_go (by simp [stepG, stepG.exec, Frame.atR])
theorem stepR_label {l : Nat} : step P (lone (b.atR a (.code (.label l) :: k)) cs w) = .next (lone (b.atR a k) cs w) :=
  step_lone_go (by simp [stepG, stepG.exec, Frame.atR])
/-- A scope whose labels nobody jumps to. -/
theorem wpIn_scope_straight {c : Code} (h : c.wpIn F n P (Exit.noGoto Q) a w) : (Code.scope c).wpIn F n P Q a w := by
  intro b k cs hro hb hr
  have h0 : (lone (b.atR a (.code (.scope c) :: k)) cs w).fenced P F := fenced_calm hb hr rfl
  obtain ⟨e, a₁, w₁, hq, harr⟩ := h b (.inScope c :: k) cs hro hb hr
  cases e with
  | normal => exact ⟨.normal, a₁, w₁, hq, .head h0 stepR_scope (StepsIn.trans harr (.one (fenced_calm hb hr rfl) stepR_inScope))⟩
  | exit id =>
    have hx : exitTo id (.inScope c :: k) = exitTo id k := by simp [exitTo]
    exact ⟨.exit id, a₁, w₁, hq, fun k' hk => .head h0 stepR_scope (harr.1 k' (by rw [hx]; exact hk)),
      fun hr' hk => let ⟨k₁, h1, h2⟩ := harr.2 hr' (by rw [hx]; exact hk); ⟨k₁, h1, .head h0 stepR_scope h2⟩⟩
  | goto l => exact hq.elim
  | ret => exact ⟨_, a₁, w₁, hq, .of_steps (.one h0 stepR_scope) harr⟩
  | panic ch => exact ⟨_, a₁, w₁, hq, .of_steps (.one h0 stepR_scope) harr⟩
  | outgrown => exact ⟨_, a₁, w₁, hq, .of_steps (.one h0 stepR_scope) harr⟩
theorem wpIn_label {l : Nat} (h : Q .normal a w) : (Code.label l).wpIn F n P Q a w := by
  intro b k cs hro hb hr
  exact ⟨.normal, a, w, h, .one (fenced_calm hb hr rfl) stepR_label⟩
end
end Go.Proofs
end

section
/- Steps in a set, as a search by rounds finds them, whether it stops early or not; no world. -/
namespace Go.Proofs
set_option maxHeartbeats 4000000
set_option maxRecDepth 100000
section
variable {α : Type}
/-- So many steps lead to a cell. -/
def WalkN (near : α → List α) (S : α → Prop) (to : α) : Nat → α → Prop
  | 0, d => d = to
  | n + 1, d => S d ∧ ∃ c, WalkN near S to n c ∧ d ∈ near c
def IsDist (near : α → List α) (S : α → Prop) (to d : α) (n : Nat) : Prop := WalkN near S to n d ∧ ∀ k, WalkN near S to k d → n ≤ k
theorem IsDist.same {near : α → List α} {S : α → Prop} {to d : α} {m n : Nat} (h : IsDist near S to d m) (h2 : IsDist near S to d n) : m = n :=
  Nat.le_antisymm (h.2 _ h2.1) (h2.2 _ h.1)
/-- The search: its queue, the steps that are known, the cell whose neighbours are asked, how many of them have been. -/
structure BfsI (near : α → List α) (S : α → Prop) (to : α) (q : List α) (st : α → Option Nat) (i j : Nat) : Prop where
  know : ∀ c, c ∈ q ↔ ∃ n, st c = some n
  here : st to = some 0
  mem : ∀ c ∈ q, S c
  nodup : q.Nodup
  walk : ∀ c n, st c = some n → WalkN near S to n c
  mono : ∀ (a b : Nat) (c d : α) (m n : Nat), a ≤ b → q[a]? = some c → q[b]? = some d → st c = some m → st d = some n → m ≤ n
  last : ∀ (c d : α) (m n : Nat), q[i]? = some c → st c = some m → st d = some n → n ≤ m + 1
  nei : ∀ (a : Nat) (c : α), a < i → q[a]? = some c → ∀ d ∈ near c, S d → ∃ m n, st c = some m ∧ st d = some n ∧ n ≤ m + 1
  cur : ∀ c, q[i]? = some c → ∀ (k : Nat) (d : α), k < j → (near c)[k]? = some d → S d → ∃ m n, st c = some m ∧ st d = some n ∧ n ≤ m + 1
variable {near : α → List α} {S : α → Prop} {to : α}
theorem BfsI.start (h : S to) {st : α → Option Nat} (h0 : st to = some 0) (hn : ∀ c, c ≠ to → st c = none) : BfsI near S to [to] st 0 0 where
  know := fun c => by
    constructor
    · intro h
      obtain rfl : c = to := by simpa using h
      exact ⟨0, h0⟩
    · rintro ⟨n, h⟩
      by_cases hc : c = to
      · simp [hc]
      · rw [hn c hc] at h
        cases h
  here := h0
  mem := fun c hc => by
    obtain rfl : c = to := by simpa using hc
    exact h
  nodup := by simp
  walk := fun c n hc => by
    by_cases he : c = to
    · subst he
      obtain rfl := Option.some.inj (h0.symm.trans hc)
      rfl
    · rw [hn c he] at hc
      cases hc
  mono := fun a b c d m n _ hc hd hm hn2 => by
    have e1 : c = to := by
      match a, hc with
      | 0, hc => simpa using hc.symm
      | a + 1, hc => simp at hc
    have e2 : d = to := by
      match b, hd with
      | 0, hd => simpa using hd.symm
      | b + 1, hd => simp at hd
    subst e1 e2
    rw [hm] at hn2
    exact Nat.le_of_eq (Option.some.inj hn2)
  last := fun c d m n _ _ hd => by
    by_cases he : d = to
    · subst he
      obtain rfl := Option.some.inj (h0.symm.trans hd)
      omega
    · rw [hn d he] at hd
      cases hd
  nei := fun a c h => absurd h (Nat.not_lt_zero a)
  cur := fun c _ k d h => absurd h (Nat.not_lt_zero k)
/-- A neighbour that is known, or no cell of the set. -/
theorem BfsI.skip {q : List α} {st : α → Option Nat} {i j : Nat} {c d : α} (h : BfsI near S to q st i j) (hc : q[i]? = some c) (hd : (near c)[j]? = some d) (hk : S d → ∃ n, st d = some n) : BfsI near S to q st i (j + 1) :=
  { h with
    cur := fun c2 hc2 k d2 hk2 hd2 hs => by
      obtain rfl := Option.some.inj (hc.symm.trans hc2)
      rcases Nat.lt_or_eq_of_le (Nat.le_of_lt_succ hk2) with h3 | rfl
      · exact h.cur c hc k d2 h3 hd2 hs
      · obtain rfl := Option.some.inj (hd.symm.trans hd2)
        obtain ⟨n, hn⟩ := hk hs
        obtain ⟨m, hm⟩ := (h.know c).1 (List.mem_of_getElem? hc)
        exact ⟨m, n, hm, hn, h.last c d m n hc hm hn⟩ }
/-- A neighbour that is new. -/
theorem BfsI.push {q : List α} {st st' : α → Option Nat} {i j m : Nat} {c d : α} (h : BfsI near S to q st i j) (hc : q[i]? = some c) (hm : st c = some m) (hd : (near c)[j]? = some d) (hs : S d) (hn : st d = none) (h1 : st' d = some (m + 1)) (h2 : ∀ e, e ≠ d → st' e = st e) : BfsI near S to (q ++ [d]) st' i (j + 1) := by
  have hdq : d ∉ q := fun hq => by
    obtain ⟨n, hn2⟩ := (h.know d).1 hq
    rw [hn] at hn2
    cases hn2
  have old : ∀ e n, st e = some n → st' e = some n := fun e n he => by
    rw [h2 e (fun e2 => by rw [e2, hn] at he; cases he)]
    exact he
  have new : ∀ e n, st' e = some n → (e = d ∧ n = m + 1) ∨ st e = some n := fun e n he => by
    by_cases hed : e = d
    · subst hed
      exact .inl ⟨rfl, Option.some.inj (he.symm.trans h1)⟩
    · rw [h2 e hed] at he
      exact .inr he
  have hil : i < q.length := (List.getElem?_eq_some_iff.1 hc).1
  have pos : ∀ (a : Nat) (e : α), (q ++ [d])[a]? = some e → (a = q.length ∧ e = d) ∨ q[a]? = some e := fun a e he => by
    by_cases ha : a < q.length
    · rw [List.getElem?_append_left ha] at he
      exact .inr he
    · rw [List.getElem?_append_right (by omega)] at he
      have h5 : a - q.length < 1 := by
        have := (List.getElem?_eq_some_iff.1 he).1
        simpa using this
      rw [show a - q.length = 0 by omega] at he
      exact .inl ⟨by omega, by simpa using he.symm⟩
  have hci : (q ++ [d])[i]? = some c := by rw [List.getElem?_append_left hil]; exact hc
  have stq : ∀ e ∈ q, ∀ n, st' e = some n → st e = some n := fun e he n hn2 => by
    rcases new e n hn2 with ⟨h6, -⟩ | h6
    · exact absurd (h6 ▸ he) hdq
    · exact h6
  exact {
    know := fun e => by
      rw [List.mem_append, List.mem_singleton]
      constructor
      · rintro (he | rfl)
        · obtain ⟨n, hn2⟩ := (h.know e).1 he
          exact ⟨n, old e n hn2⟩
        · exact ⟨_, h1⟩
      · rintro ⟨n, hn2⟩
        rcases new e n hn2 with ⟨h6, -⟩ | h6
        · exact .inr h6
        · exact .inl ((h.know e).2 ⟨n, h6⟩)
    here := old _ _ h.here
    mem := fun e he => by
      rcases List.mem_append.1 he with he | he
      · exact h.mem e he
      · obtain rfl : e = d := by simpa using he
        exact hs
    nodup := by
      rw [List.nodup_append]
      exact ⟨h.nodup, by simp, fun x hx y hy => by
        obtain rfl : y = d := by simpa using hy
        intro e
        exact hdq (e ▸ hx)⟩
    walk := fun e n he => by
      rcases new e n he with ⟨rfl, rfl⟩ | h6
      · exact ⟨hs, c, h.walk c m hm, List.mem_of_getElem? hd⟩
      · exact h.walk e n h6
    mono := fun a b e f k n hab he hf hk hn2 => by
      rcases pos b f hf with ⟨hb, rfl⟩ | hf2
      · obtain rfl := Option.some.inj (h1.symm.trans hn2)
        rcases pos a e he with ⟨-, rfl⟩ | he2
        · rw [h1] at hk
          exact Nat.le_of_eq (Option.some.inj hk).symm
        · exact h.last c e m k hc hm (stq e (List.mem_of_getElem? he2) k hk)
      · have hbl := (List.getElem?_eq_some_iff.1 hf2).1
        rcases pos a e he with ⟨ha, -⟩ | he2
        · omega
        · exact h.mono a b e f k n hab he2 hf2 (stq e (List.mem_of_getElem? he2) k hk) (stq f (List.mem_of_getElem? hf2) n hn2)
    last := fun e f k n he hk hn2 => by
      obtain rfl := Option.some.inj (hci.symm.trans he)
      obtain rfl := Option.some.inj ((old c m hm).symm.trans hk)
      rcases new f n hn2 with ⟨-, rfl⟩ | h6
      · exact Nat.le_refl _
      · exact h.last c f m n hc hm h6
    nei := fun a e ha he f hf hsf => by
      rcases pos a e he with ⟨h6, -⟩ | he2
      · omega
      · obtain ⟨k, n, g1, g2, g3⟩ := h.nei a e ha he2 f hf hsf
        exact ⟨k, n, old _ _ g1, old _ _ g2, g3⟩
    cur := fun e he k f hk hf hsf => by
      obtain rfl := Option.some.inj (hci.symm.trans he)
      rcases Nat.lt_or_eq_of_le (Nat.le_of_lt_succ hk) with h3 | rfl
      · obtain ⟨x, n, g1, g2, g3⟩ := h.cur c hc k f h3 hf hsf
        exact ⟨x, n, old _ _ g1, old _ _ g2, g3⟩
      · obtain rfl := Option.some.inj (hd.symm.trans hf)
        exact ⟨m, m + 1, old _ _ hm, h1, Nat.le_refl _⟩ }
/-- The next cell of the queue. -/
theorem BfsI.next {q : List α} {st : α → Option Nat} {i : Nat} {c : α} (hc : q[i]? = some c) (h : BfsI near S to q st i (near c).length) : BfsI near S to q st (i + 1) 0 :=
  { h with
    last := fun e f k n he hk hn => by
      obtain ⟨m, hm⟩ := (h.know c).1 (List.mem_of_getElem? hc)
      have h1 := h.mono i (i + 1) c e m k (by omega) hc he hm hk
      have h2 := h.last c f m n hc hm hn
      omega
    nei := fun a e ha he f hf hs => by
      rcases Nat.lt_or_eq_of_le (Nat.le_of_lt_succ ha) with h3 | rfl
      · exact h.nei a e h3 he f hf hs
      · obtain rfl := Option.some.inj (hc.symm.trans he)
        obtain ⟨k, hk⟩ := List.mem_iff_getElem?.1 hf
        exact h.cur c hc k f (List.getElem?_eq_some_iff.1 hk).1 hk hs
    cur := fun e _ k f hk => absurd hk (Nat.not_lt_zero k) }
/-- At the queue's end all cells to which steps lead are known, with the fewest. -/
theorem BfsI.done {q : List α} {st : α → Option Nat} {i j : Nat} (h : BfsI near S to q st i j) (hi : q.length ≤ i) : ∀ (n : Nat) (d : α), WalkN near S to n d → ∃ m, m ≤ n ∧ st d = some m
  | 0, d, hw => by
    obtain rfl : d = to := hw
    exact ⟨0, Nat.le_refl _, h.here⟩
  | n + 1, d, hw => by
    obtain ⟨hs, c, hc, hd⟩ := hw
    obtain ⟨m, hm, hst⟩ := h.done hi n c hc
    obtain ⟨a, ha⟩ := List.mem_iff_getElem?.1 ((h.know c).2 ⟨m, hst⟩)
    obtain ⟨m2, n2, g1, g2, g3⟩ := h.nei a c (by have := (List.getElem?_eq_some_iff.1 ha).1; omega) ha d hd hs
    obtain rfl := Option.some.inj (hst.symm.trans g1)
    exact ⟨n2, by omega, g2⟩
theorem BfsI.done_dist {q : List α} {st : α → Option Nat} {i j : Nat} (h : BfsI near S to q st i j) (hi : q.length ≤ i) (d : α) (n : Nat) : st d = some n ↔ IsDist near S to d n := by
  have key : ∀ n, st d = some n → IsDist near S to d n := fun n hn => ⟨h.walk d n hn, fun k hk => by
    obtain ⟨m, hm, hst⟩ := h.done hi k d hk
    obtain rfl := Option.some.inj (hn.symm.trans hst)
    exact hm⟩
  refine ⟨key n, fun hd => ?_⟩
  obtain ⟨m, -, hst⟩ := h.done hi n d hd.1
  rw [hst, (key m hst).same hd]
/-- Within the search, cells that are no further than the cell in hand are known. -/
theorem BfsI.upto {q : List α} {st : α → Option Nat} {i j m : Nat} {c : α} (h : BfsI near S to q st i j) (hc : q[i]? = some c) (hm : st c = some m) : ∀ (n : Nat) (d : α), n ≤ m → WalkN near S to n d → ∃ k, k ≤ n ∧ st d = some k
  | 0, d, _, hw => by
    obtain rfl : d = to := hw
    exact ⟨0, Nat.le_refl _, h.here⟩
  | n + 1, d, hn, hw => by
    obtain ⟨hs, e, he, hd⟩ := hw
    obtain ⟨k, hk, hst⟩ := h.upto hc hm n e (by omega) he
    obtain ⟨a, ha⟩ := List.mem_iff_getElem?.1 ((h.know e).2 ⟨k, hst⟩)
    have hai : a < i := by
      apply Classical.byContradiction
      intro hna
      have := h.mono i a c e m k (by omega) hc ha hm hst
      omega
    obtain ⟨m2, n2, g1, g2, g3⟩ := h.nei a e hai ha d hd hs
    obtain rfl := Option.some.inj (hst.symm.trans g1)
    exact ⟨n2, by omega, g2⟩
theorem BfsI.upto_dist {q : List α} {st : α → Option Nat} {i j m : Nat} {c : α} (h : BfsI near S to q st i j) (hc : q[i]? = some c) (hm : st c = some m) (d : α) : (∀ n, st d = some n → IsDist near S to d n) ∧ (∀ n, n ≤ m → IsDist near S to d n → st d = some n) := by
  have key : ∀ n, st d = some n → IsDist near S to d n := fun n hn => ⟨h.walk d n hn, fun k hk => by
    by_cases hkm : k ≤ m
    · obtain ⟨x, hx, hst⟩ := h.upto hc hm k d hkm hk
      obtain rfl := Option.some.inj (hn.symm.trans hst)
      exact hx
    · have := h.last c d m n hc hm hn
      omega⟩
  refine ⟨key, fun n hn hd => ?_⟩
  obtain ⟨x, -, hst⟩ := h.upto hc hm n d hn hd.1
  rw [hst, (key x hst).same hd]
/-- The path that goes, of the nearer neighbours, always to the first. -/
def pathF (near : α → List α) (st : α → Option Nat) : Nat → α → List α
  | 0, c => [c]
  | n + 1, c => c :: (match (near c).find? (fun d => decide (st d = some n)) with
    | some d => pathF near st n d
    | none => [])
theorem pathF_same {near : α → List α} {st st' : α → Option Nat} {D : Nat} (h : ∀ d k, k < D → (st d = some k ↔ st' d = some k)) : ∀ (n : Nat) (c : α), n ≤ D → pathF near st n c = pathF near st' n c
  | 0, c, _ => rfl
  | n + 1, c, hn => by
    unfold pathF
    have e : (fun d => decide (st d = some n)) = fun d => decide (st' d = some n) := funext fun d => decide_eq_decide.2 (h d n (by omega))
    rw [e]
    split
    · rw [pathF_same h n _ (by omega)]
    · rfl
/-- From each cell that steps lead to there is a nearer neighbour. -/
theorem pathF_len {st : α → Option Nat} {D : Nat} (hsym : ∀ c d, d ∈ near c → c ∈ near d) (h : ∀ d k, k < D → IsDist near S to d k → st d = some k) (h2 : ∀ d k, st d = some k → IsDist near S to d k) (hS : S to) : ∀ (n : Nat) (c : α), n ≤ D → IsDist near S to c n → (pathF near st n c).length = n + 1
  | 0, c, _, _ => rfl
  | n + 1, c, hn, hd => by
    obtain ⟨⟨hs, b, hb, hcb⟩, hmin⟩ := hd
    have hbd : IsDist near S to b n := ⟨hb, fun k hk => by
      have := hmin (k + 1) ⟨hs, b, hk, hcb⟩
      omega⟩
    have hst := h b n (by omega) hbd
    unfold pathF
    cases hf : (near c).find? (fun d => decide (st d = some n)) with
    | none =>
      have := List.find?_eq_none.1 hf b (hsym b c hcb)
      simp [hst] at this
    | some d =>
      have hd2 : st d = some n := by simpa using List.find?_some hf
      show ((c :: pathF near st n d)).length = n + 1 + 1
      rw [List.length_cons, pathF_len hsym h h2 hS n d (by omega) (h2 d n hd2)]
end
end Go.Proofs
end
