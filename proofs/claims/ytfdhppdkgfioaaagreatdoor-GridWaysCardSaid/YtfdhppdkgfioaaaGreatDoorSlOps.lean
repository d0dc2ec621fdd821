import Derived.Test.YtfdhppdkgfioaaaGreatDoorMoved
import Derived.Deep.AppendLies
import Derived.Deep.RegionHeld3
import Derived.Test.YtfdhppdkgfioaaaGreatDoorShrinkR
import Derived.Test.YtfdhppdkgfioaaaGreatDoorCheckG
import Derived.Test.YtfdhppdkgfioaaaGreatDoorPrtC
import Derived.Test.YtfdhppdkgfioaaaGreatDoorSl
section
/- append in a region that draws its order. -/
namespace Go.Proofs
open Go.Shelf Go.RowKit Go.Lib Go.Sort
set_option maxHeartbeats 8000000
set_option maxRecDepth 1000000
/-- append of a few cells in a region that draws its order. -/
theorem step_append_sl {w : World} {ops : Array Oper} {o : Oper} {a : Act} {K : Act → World → Prop} {Q : Exit → Act → World → Prop} {E : Prop} (hgd : o.guard = none) (s x : Operand)
    (ho : o.op = .call { callee := .builtin .append, args := #[s, x], argTypes := #[22, 22] }) (B : Nat) (hB : B ≤ w.heap.size) (v : Value) (l : List Cel) (hs : a.eval s = v) (hown : Own w B v l)
    (vx : Value) (m : List Cel) (hx : a.eval x = vx) (hm : Sl w vx m) (h0 : m ≠ []) (hn : l.length + m.length ≤ 1000000)
    (h : ∀ v' w', Own w' B v' (l ++ m) → Below B w w' → K (a.put o.dst v') w') : if Region.wanted o (yielded ops a.tmps) = true then Oper.wp Tryz.prog o a w K Q else E := by
  obtain ⟨j0, hj, hy0, hy1, hy2⟩ := info_parts (P := Tryz.prog) (e := 24) (z := .agg #[.int .i64 0, .int .i64 0, .int .i64 0]) (size := 3) (bytes := 24) (by kernel_rfl)
  have hp := List.length_pos_iff.2 h0
  rcases hm with ⟨rfl, rfl⟩ | ⟨ad, cap, rfl, hm⟩
  · exact absurd rfl h0
  · refine step_append_lies w hgd s x _ ho B 24 j0 _ 3 24 Tryz.underlying22 hj hy0 hy1 hy2 rfl (by decide) v l.length (flatC l) hs hown ad m.length cap (flatC m) hx (flatC_len3 m) (sl_cells hm) flatC_one3 hp (by unfold maxLen; omega) (by omega) hB _ rfl fun g cap w' h1 h2 _ _ => ?_
    exact h _ w' (own_of h1 List.length_append.symm (flatC_append l m).symm) ((Below.refl B w).grown h2 hB fun k hk => (hown.lt k hk).1)
end Go.Proofs
end

section
/- Small functions of chapter 1's statements: OutCells, checkEach, the reference's Cut and Less. -/
namespace Go.Proofs
open Go.RowKit
set_option maxHeartbeats 8000000
set_option maxRecDepth 1000000
theorem refLess_ok (a b : List Cel) (va vb : Value) (w : World) (ha : Sl w va a) (hb : Sl w vb b) (la : a.length ≤ 400000) (lb : b.length ≤ 400000) :
    Calls Tryz.prog 58 #[va, vb] w fun e w' => ∃ v', e = .returned v' ∧ Own w' w.heap.size v' (a.filter fun c => !decide (c ∈ b)) ∧ Below w.heap.size w w' := by
  obtain ⟨A, cap, rfl⟩ := ha.form
  obtain ⟨A', cap', rfl⟩ := hb.form
  go_enter Tryz.func58, Tryz.ntmps58
  go_wp2
  go_loopw [5, 6] (fun s i wr => ∃ k : Nat, k ≤ a.length ∧ i = .int .i64 k ∧ Own wr w.heap.size s ((a.take k).filter fun c => !decide (c ∈ b)) ∧ Below w.heap.size w wr) (fun _ i _ => a.length - (intOf i).toNat)
  case atStart => exact ⟨0, Nat.zero_le _, rfl, Own.nil _ _, Below.refl _ _⟩
  case round =>
    obtain ⟨k, hk, rfl, hown, hBel⟩ := hrel
    rename World => w1
    rcases Nat.lt_or_eq_of_le hk with hkn | rfl
    · obtain ⟨bk, o, x, y, z, rfl, -, hbk, hc, r0, r1, r2⟩ := ha.cells hkn
      have hsz := hBel.size
      have R0 := (hBel.cell (p := ⟨bk, _, none⟩) hbk).trans r0
      have R1 := (hBel.cell (p := ⟨bk, _, none⟩) hbk).trans r1
      have R2 := (hBel.cell (p := ⟨bk, _, none⟩) hbk).trans r2
      have hh := has_ok b _ x y z w1 (hb.below hBel) (by omega)
      have hft := filter_take1 (f := fun c => !decide (c ∈ b)) hc
      have hfl : ((a.take k).filter fun c => !decide (c ∈ b)).length ≤ 400000 := Nat.le_trans (List.length_filter_le ..) (by rw [List.length_take]; omega)
      by_cases hin : (x, y, z) ∈ b
      · rw [decide_eq_true hin] at hh
        simp only [hin, decide_true, Bool.not_true, Bool.false_eq_true, if_false, List.append_nil] at hft
        have Hft := Lib.hid hft
        clear ha hb hc hin hft
        go_wp2_with (go_at_call 18; refine hh.mono ?_; rintro e w2 ⟨rfl, hB2⟩)
        exact ⟨⟨k + 1, hkn, rfl, by rw [Hft.out]; exact hown.keep hB2, hBel.trans (hB2.mono hsz)⟩, by simp [intOf]; omega⟩
      · rw [decide_eq_false hin] at hh
        simp only [hin, decide_false, Bool.not_false, if_true] at hft
        have Hft := Lib.hid hft
        clear ha hb hc hin hft
        go_wp2_with (first
          | (go_at_call 18; refine hh.mono ?_; rintro e w2 ⟨rfl, hB2⟩
             have S0 := (hB2.cell (p := ⟨bk, _, none⟩) (Nat.lt_of_lt_of_le hbk hsz)).trans R0
             have S1 := (hB2.cell (p := ⟨bk, _, none⟩) (Nat.lt_of_lt_of_le hbk hsz)).trans R1
             have S2 := (hB2.cell (p := ⟨bk, _, none⟩) (Nat.lt_of_lt_of_le hbk hsz)).trans R2
             have hown2 := (hown.keep hB2).alloc (.cells #[.int .i64 x, .int .i64 y, .int .i64 z] 24)
             have hBa : Below w.heap.size w (w2.alloc (.cells #[.int .i64 x, .int .i64 y, .int .i64 z] 24)) := (hBel.trans (hB2.mono hsz)).alloc (Nat.le_trans hsz hB2.size) _
             clear r0 r1 r2 R0 R1 R2)
          | (at_builtin; refine wpList_append_sl rfl _ _ rfl w.heap.size ?cE _ _ rfl hown2 _ [(x, y, z)] rfl (.inr ⟨_, 1, rfl, row_one w2 x y z⟩) ?cC ?_))
        case cC => simp; omega
        case cE => exact hBa.size
        intro v1 w3 hown3 hB3
        go_wp2
        exact ⟨⟨k + 1, hkn, rfl, by rw [Hft.out]; exact hown3, hBa.trans hB3⟩, by simp [intOf]; omega⟩
    · rw [List.take_length] at hown
      clear ha hb
      go_wp2
      go_ret
      exact ⟨_, rfl, hown, hBel⟩
end Go.Proofs
end

section
/- SameCells of any two sets' slices. -/
namespace Go.Proofs
open Go.RowKit
set_option maxHeartbeats 8000000
set_option maxRecDepth 1000000
theorem sameSl (l m : List Cel) (v u : Value) (w : World) (hl : Sl w v l) (hm : Sl w u m) (hn : l.length ≤ 4096) :
    Calls Tryz.prog 47 #[v, u] w fun e w' => e = .returned (.bool (decide (l = m))) ∧ ∃ q, w' = w.drewN q := by
  by_cases hlen : l.length = m.length
  · cases l with
    | nil =>
      obtain rfl : m = [] := List.eq_nil_of_length_eq_zero hlen.symm
      obtain ⟨A, ca, rfl⟩ := hl.form
      obtain ⟨B, cb, rfl⟩ := hm.form
      clear hl hm hn hlen
      show Calls Tryz.prog 47 #[.slice A 0 ca, .slice B 0 cb] w fun e w' => e = .returned (.bool true) ∧ ∃ q, w' = w.drewN q
      go_enter Tryz.func47, Tryz.ntmps47
      go_wp2
      go_loopw [5] (fun i wr => i = .int .i64 0 ∧ wr = w) (fun _ _ => 0)
      case atStart => exact ⟨rfl, rfl⟩
      case round =>
        obtain ⟨rfl, rfl⟩ := hrel
        go_wp2
        go_ret
        exact ⟨rfl, 0, rfl⟩
    | cons h l =>
      rcases hl with ⟨_, h2⟩ | ⟨a, ca, rfl, ha⟩
      · cases h2
      rcases hm with ⟨_, rfl⟩ | ⟨b, cb, rfl, hb⟩
      · cases hlen
      obtain ⟨a1, a2, a3⟩ := ha (by simp)
      obtain ⟨b1, b2, b3⟩ := hb (by intro e; subst e; cases hlen)
      obtain ⟨ab, ao, sa⟩ := a
      obtain ⟨bb, bo, sb⟩ := b
      obtain rfl : sa = none := a1
      obtain rfl : sb = none := b1
      exact sameCells_ok (h :: l) m ab ao ca bb bo cb w a3 b3 hn
  · have hle : ¬ ((l.length : Int) = m.length) := by omega
    have hne : l ≠ m := fun e => hlen (by rw [e])
    rw [decide_eq_false hne]
    obtain ⟨A, ca, rfl⟩ := hl.form
    obtain ⟨B, cb, rfl⟩ := hm.form
    clear hl hm
    go_enter Tryz.func47, Tryz.ntmps47
    go_wp2
    all_goals go_ret
    all_goals (first | exact ⟨rfl, 0, rfl⟩ | (simp_all))
end Go.Proofs
end
