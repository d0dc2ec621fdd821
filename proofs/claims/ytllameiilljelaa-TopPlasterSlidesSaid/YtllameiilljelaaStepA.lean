import Derived.Test.YtllameiilljelaaLoopD
import Derived.Test.YtllameiilljelaaBoundR
import Derived.Test.YtllameiilljelaaBoundG
import Derived.Deep.AppendLies
import Derived.Deep.RegionHeld3
section
/- A store into a set of cells under a fence; all but one block as it was. -/
namespace Go.Proofs
open Go.RowKit Go.Shelf
set_option maxHeartbeats 16000000
set_option maxRecDepth 1000000
attribute [local go_sem] Oper.semAt_some
section
variable {F : Fence} {nF : Nat} {w : World} {ops : Array Oper} {rest : List Oper} {o : Oper} {a : Act} {Q : Exit → Act → World → Prop}
/-- A store into a set of cells, in a round or under a fence. -/
theorem wpListIn_update_set (hg : o.guard = none) (m x v : Operand) (t : TypeId) (hop : o.op = Op.mapUpdate t m x v) (ht : Try.prog.underlying t = some (.map 26 4)) (b : Nat) (l : List Cel) (hm : a.eval m = .map (some b)) (hs : CSet w b l) (c : Cel) (hx : a.eval x = cellV c) (hv : a.eval v = .bool true)
    (h : ∀ w', CSet w' b (addC c l) → w.grownBy w' (some b) → wpListIn F nF Try.prog ops Q rest (a.put o.dst undef) w') : wpListIn F nF Try.prog ops Q (o :: rest) a w := by
  refine wpListIn_plain hg fun K hK => ?_
  obtain ⟨w', h1, h2, h3⟩ := update_cells hs ht c (.bool true)
  rw [putC_set] at h2
  unfold Oper.wpIn
  refine ⟨by simp [Oper.about, hop], ?_⟩
  rw [Oper.semAt_plain F _ _ (by rw [hop]; intro c hc'; cases hc')]
  simp [execOp, hop, hm, hx, hv, h1, Result.andThen]
  exact hK _ _ (h w' h2 h3)
end
/-- All below B but one block is as it was. -/
structure Keep1 (B b : Nat) (W W' : World) : Prop where
  os : W'.os = W.os
  tape : W'.tape = W.tape
  output : W'.output = W.output
  size : W.heap.size ≤ W'.heap.size
  block : ∀ k : Nat, k < B → k ≠ b → W'.heap[k]? = W.heap[k]?
theorem Keep1.refl (B b : Nat) (W : World) : Keep1 B b W W := ⟨rfl, rfl, rfl, Nat.le_refl _, fun _ _ _ => rfl⟩
theorem Keep1.trans {B b : Nat} {X Y Z : World} (h : Keep1 B b X Y) (k : Keep1 B b Y Z) : Keep1 B b X Z := ⟨k.os.trans h.os, k.tape.trans h.tape, k.output.trans h.output, Nat.le_trans h.size k.size, fun i h1 h2 => (k.block i h1 h2).trans (h.block i h1 h2)⟩
theorem Keep1.of_below {B b : Nat} {X Y : World} (h : Below B X Y) : Keep1 B b X Y := ⟨h.os, h.tape, h.output, h.size, fun i h1 _ => h.block i h1⟩
theorem Keep1.of_grown {B b : Nat} {X Y : World} {row : Option Nat} (hg : X.grownBy Y row) (hB : B ≤ X.heap.size) (hr : ∀ k, row = some k → k = b ∨ B ≤ k) : Keep1 B b X Y := ⟨hg.os, hg.tape, hg.output, hg.size, fun i h1 h2 => hg.block i (by omega) fun e => by
  rcases hr i e.symm with h | h
  · exact h2 h
  · omega⟩
theorem sl_keep1 {W W' : World} {B b : Nat} {v : Value} {l : List Cel} {S : List Cel} (hs : CSet W b S) (h : Sl W v l) (hB : W.heap.size ≤ B) (hk : Keep1 B b W W') : Sl W' v l := by
  rcases h with h | ⟨ad, cap, rfl, h⟩
  · exact .inl h
  · refine .inr ⟨ad, cap, rfl, fun h0 => ?_⟩
    obtain ⟨h1, h2, h3⟩ := h h0
    have hne : ad.block ≠ b := fun e => by
      obtain ⟨es, clock, q, _⟩ := hs
      obtain ⟨c, hc⟩ := List.exists_mem_of_ne_nil l h0
      obtain ⟨i, hi⟩ := List.mem_iff_getElem?.1 hc
      have := (h3 i c hi).1
      rw [e] at this
      simp [World.cell?, q] at this
    have hblk := hk.block _ (Nat.lt_of_lt_of_le h2 hB) hne
    refine ⟨h1, Nat.lt_of_lt_of_le h2 hk.size, fun i c hi => ?_⟩
    obtain ⟨r0, r1, r2⟩ := h3 i c hi
    exact ⟨(World.cell?_of_block (a := ⟨ad.block, _, none⟩) hblk).trans r0, (World.cell?_of_block (a := ⟨ad.block, _, none⟩) hblk).trans r1, (World.cell?_of_block (a := ⟨ad.block, _, none⟩) hblk).trans r2⟩
theorem below_alloc (W : World) (o : Obj) : Below W.heap.size W (W.alloc o) := (Below.refl _ _).alloc (Nat.le_refl _) _
end Go.Proofs
end

section
/- The reference's At and HasCell. -/
namespace Go.Proofs
open Go.RowKit
set_option maxHeartbeats 8000000
set_option maxRecDepth 1000000
end Go.Proofs
end

section
/- append in a region that draws its order. -/
namespace Go.Proofs
open Go.Shelf Go.RowKit Go.Lib Go.Sort
set_option maxHeartbeats 8000000
set_option maxRecDepth 1000000
/-- append of a few cells in a region that draws its order. -/
theorem step_append_sl {w : World} {ops : Array Oper} {o : Oper} {a : Act} {K : Act → World → Prop} {Q : Exit → Act → World → Prop} {E : Prop} (hgd : o.guard = none) (s x : Operand)
    (ho : o.op = .call { callee := .builtin .append, args := #[s, x], argTypes := #[22, 22] }) (B : Nat) (hB : B ≤ w.heap.size) (v : Value) (l : List Cel) (hs : a.eval s = v) (hown : Own w B v l)
    (vx : Value) (m : List Cel) (hx : a.eval x = vx) (hm : Sl w vx m) (h0 : m ≠ []) (hn : l.length + m.length ≤ 1000000)
    (h : ∀ v' w', Own w' B v' (l ++ m) → Below B w w' → K (a.put o.dst v') w') : if Region.wanted o (yielded ops a.tmps) = true then Oper.wp Try.prog o a w K Q else E := by
  obtain ⟨j0, hj, hy0, hy1, hy2⟩ := info_parts (P := Try.prog) (e := 26) (z := .agg #[.int .i64 0, .int .i64 0, .int .i64 0]) (size := 3) (bytes := 24) (by kernel_rfl)
  have hp := List.length_pos_iff.2 h0
  rcases hm with ⟨rfl, rfl⟩ | ⟨ad, cap, rfl, hm⟩
  · exact absurd rfl h0
  · refine step_append_lies w hgd s x _ ho B 26 j0 _ 3 24 Try.underlying22 hj hy0 hy1 hy2 rfl (by decide) v l.length (flatC l) hs hown ad m.length cap (flatC m) hx (flatC_len3 m) (sl_cells hm) flatC_one3 hp (by unfold maxLen; omega) (by omega) hB _ rfl fun g cap w' h1 h2 _ _ => ?_
    exact h _ w' (own_of h1 List.length_append.symm (flatC_append l m).symm) ((Below.refl B w).grown h2 hB fun k hk => (hown.lt k hk).1)
end Go.Proofs
end
