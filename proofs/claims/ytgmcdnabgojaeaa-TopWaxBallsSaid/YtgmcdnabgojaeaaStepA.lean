/- append in a region that draws its order. -/
import Derived.Test.YtgmcdnabgojaeaaUnP
import Derived.Deep.AppendLies
import Derived.Deep.RegionHeld3
namespace Go.Proofs
open Go.Shelf Go.RowKit Go.Lib Go.Sort
set_option maxHeartbeats 8000000
set_option maxRecDepth 1000000
/-- append of a few cells in a region that draws its order. -/
theorem step_append_sl {w : World} {ops : Array Oper} {o : Oper} {a : Act} {K : Act → World → Prop} {Q : Exit → Act → World → Prop} {E : Prop} (hgd : o.guard = none) (s x : Operand)
    (ho : o.op = .call { callee := .builtin .append, args := #[s, x], argTypes := #[22, 22] }) (B : Nat) (hB : B ≤ w.heap.size) (v : Value) (l : List Cel) (hs : a.eval s = v) (hown : Own w B v l)
    (vx : Value) (m : List Cel) (hx : a.eval x = vx) (hm : Sl w vx m) (h0 : m ≠ []) (hn : l.length + m.length ≤ 1000000)
    (h : ∀ v' w', Own w' B v' (l ++ m) → Below B w w' → K (a.put o.dst v') w') : if Region.wanted o (yielded ops a.tmps) = true then Oper.wp Try.prog o a w K Q else E := by
  obtain ⟨j0, hj, hy0, hy1, hy2⟩ := info_parts (P := Try.prog) (e := 32) (z := .agg #[.int .i64 0, .int .i64 0, .int .i64 0]) (size := 3) (bytes := 24) (by kernel_rfl)
  have hp := List.length_pos_iff.2 h0
  rcases hm with ⟨rfl, rfl⟩ | ⟨ad, cap, rfl, hm⟩
  · exact absurd rfl h0
  · refine step_append_lies w hgd s x _ ho B 32 j0 _ 3 24 Try.underlying22 hj hy0 hy1 hy2 rfl (by decide) v l.length (flatC l) hs hown ad m.length cap (flatC m) hx (flatC_len3 m) (sl_cells hm) flatC_one3 hp (by unfold maxLen; omega) (by omega) hB _ rfl fun g cap w' h1 h2 _ _ => ?_
    exact h _ w' (own_of h1 List.length_append.symm (flatC_append l m).symm) ((Below.refl B w).grown h2 hB fun k hk => (hown.lt k hk).1)
end Go.Proofs
