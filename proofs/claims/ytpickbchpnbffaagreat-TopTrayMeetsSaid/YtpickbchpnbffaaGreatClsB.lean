/- The fixed example of chapter 4: heights of one cell. -/
import Derived.Test.YtpickbchpnbffaaGreatClsA
import Derived.Test.YtpickbchpnbffaaGreatRowX
import Derived.Deep.RegionWith
import Derived.Test.YtpickbchpnbffaaGreatHeldF
import Derived.Deep.AppendLies
import Derived.Carry
namespace Go.Proofs
open Go.RowKit Go.MapKept
set_option maxHeartbeats 16000000
set_option maxRecDepth 1000000
/-- The world with a map of one column. -/
def updW (w : World) (b : Nat) (v : Value) : World := ChangeMaps.setBlock w b (.map #[{ key := pairV 0 0, val := v, born := 0 }] 1)
theorem update_eq {w : World} {b : Nat} (h : w.heap[b]? = some (.map #[] 0)) (v : Value) : (Instr.mapUpdate 118 (.map (some b)) (.agg #[.int .i64 0, .int .i64 0]) v).run Tryz.prog w = .ok () (updW w b v) := by
  have hf : (Instr.findKey 120 (pairV 0 0) []).run Tryz.prog w = .ok none w := by rw [run_findKey_eq w (by rw [Tryz.underlying120])]; simp [Instr.findAsking]
  change (Instr.mapUpdate _ _ (pairV 0 0) v).run _ _ = _
  simp [Instr.mapUpdate, run_underlying Tryz.underlying118, MapKept.run_getObj_map h, check_pair, hf, Result.andThen, MapKept.run_setObj_map _ h, updW, ChangeMaps.setBlock]
theorem keep_alloc {w : World} {b : Nat} {O : Obj} (h : w.heap[b]? = some O) (o : Obj) : (w.alloc o).heap[b]? = some O := (Below.heap_alloc _ _ _ (Array.getElem?_eq_some_iff.1 h).1).trans h
theorem row_after {V w2 : World} {x : Value} {T : TypeId} (h : Below (V.alloc (.cells #[x] T)).heap.size (V.alloc (.cells #[x] T)) w2) : w2.cell? ⟨V.heap.size, 0, none⟩ = some x ∧ V.heap.size < w2.heap.size := by
  have hl : V.heap.size < (V.alloc (.cells #[x] T)).heap.size := (Array.getElem?_eq_some_iff.1 (heap_alloc_new V (.cells #[x] T))).1
  refine ⟨?_, Nat.lt_of_lt_of_le hl h.size⟩
  rw [cell_of_row w2 _ 0 _ _ _ ((h.block _ hl).trans (heap_alloc_new V _))]
  simp
theorem row_keep {V w2 : World} {x : Value} {g : Nat} (h : Below V.heap.size V w2) (r : V.cell? ⟨g, 0, none⟩ = some x) (hl : g < V.heap.size) : w2.cell? ⟨g, 0, none⟩ = some x ∧ g < w2.heap.size := ⟨(h.cell (p := ⟨g, 0, none⟩) hl).trans r, Nat.lt_of_lt_of_le hl h.size⟩
theorem wanted_noneB {o : Oper} {ops : Array Oper} {t : Array Value} (h : o.guard = none) : Region.wanted o (yielded ops t) = true := by
  simp [Region.wanted, h]
/-- Where the one int of a new row lies. -/
def RowF (g : Nat) (W : World) : Prop := W.cell? ⟨g, 0, none⟩ = some (.int .i64 4) ∧ g < W.heap.size
theorem RowF.keep {g : Nat} {V w2 : World} (r : RowF g V) (h : Below V.heap.size V w2) : RowF g w2 := ⟨(h.cell (p := ⟨g, 0, none⟩) r.2).trans r.1, Nat.lt_of_lt_of_le r.2 h.size⟩
theorem RowF.new (V : World) : RowF V.heap.size (V.alloc (.cells #[.int .i64 4] 3)) := by
  have hn := heap_alloc_new V (.cells #[.int .i64 4] 3)
  refine ⟨?_, (Array.getElem?_eq_some_iff.1 hn).1⟩
  rw [cell_of_row _ _ 0 _ _ _ hn]
  simp
set_option maxHeartbeats 4000000 in
/-- Two calls, a look-up and a new row, in any order; then append. -/
theorem hts_region {md : Region.Mode} {ops : Array Oper} {Q : Exit → Act → World → Prop} {S : World → Prop} {o2 o5 o6 o9 o10 : Oper} (W1 : World) (m : Nat) (x0 x1 x2 x3 x4 x5 x6 x7 x8 x9 x10 x11 x12 vm vc p20 x24 x25 : Value)
    (kS : ∀ V, Below W1.heap.size W1 V → S V) (kM : ∀ V, Below W1.heap.size W1 V → V.heap[m]? = some (.map #[] 0))
    (h2 : ops[2]? = some o2) (g2 : o2.guard = none) (e2 : ∀ (a : Act) (w : World) (K : Act → World → Prop), a.tmps.getD 14 undef = vc → (∀ w2, Below w.heap.size w w2 → K (a.put (some 15) (pairV 0 0)) w2) → Oper.wp Tryz.prog o2 a w K Q)
    (h5 : ops[5]? = some o5) (g5 : o5.guard = none) (e5 : ∀ (a : Act) (w : World) (K : Act → World → Prop), a.tmps.getD 17 undef = vc → (∀ w2, Below w.heap.size w w2 → K (a.put (some 18) (pairV 0 0)) w2) → Oper.wp Tryz.prog o5 a w K Q)
    (h6 : ops[6]? = some o6) (g6 : o6.guard = none) (d6 : o6.dst = some 19) (e6 : ∀ (a : Act) (w : World), w.heap[m]? = some (.map #[] 0) → a.tmps.getD 16 undef = vm → a.tmps.getD 18 undef = pairV 0 0 → (execOp a.eval o6).run Tryz.prog w = .ok (.value (.slice none 0 0)) w)
    (h9 : ops[9]? = some o9) (g9 : o9.guard = none) (d9 : o9.dst = some 22) (e9 : ∀ (a : Act) (w : World), a.tmps.getD 21 undef = .int .i64 4 → (execOp a.eval o9).run Tryz.prog w = .ok (.value (.slice (some ⟨w.heap.size, 0, none⟩) 1 1)) (w.alloc (.cells #[.int .i64 4] 3)))
    (h10 : ops[10]? = some o10) (g10 : o10.guard = none) (d10 : o10.dst = some 23) (e10 : o10.op = .call { callee := .builtin .append, args := #[.tmp 19, .tmp 22], argTypes := #[27, 27] })
    (r00 : Region.ready md ops #[true, true, false, true, true, false, false, true, true, false, false, false] = [2, 9])
    (r10 : Region.ready md ops #[true, true, true, true, true, false, false, true, true, false, false, false] = [5, 9])
    (r20 : Region.ready md ops #[true, true, true, true, true, true, false, true, true, false, false, false] = [6, 9])
    (r30 : Region.ready md ops #[true, true, true, true, true, true, true, true, true, false, false, false] = [9])
    (r01 : Region.ready md ops #[true, true, false, true, true, false, false, true, true, true, false, false] = [2])
    (r11 : Region.ready md ops #[true, true, true, true, true, false, false, true, true, true, false, false] = [5])
    (r21 : Region.ready md ops #[true, true, true, true, true, true, false, true, true, true, false, false] = [6])
    (r31 : Region.ready md ops #[true, true, true, true, true, true, true, true, true, true, false, false] = [10])
    (fin : ∀ (G c g : Nat) (W : World), W.ownsRow W1.heap.size 3 1 (.slice (some ⟨G, 0, none⟩) 1 c) 1 [.int .i64 4] → Below W1.heap.size W1 W → wpAnyH Tryz.prog md ops Q S 1 #[true, true, true, true, true, true, true, true, true, true, true, false] { tmps := #[x0, x1, x2, x3, x4, x5, x6, x7, x8, x9, x10, x11, x12, vm, vc, pairV 0 0, vm, vc, pairV 0 0, .slice none 0 0, p20, .int .i64 4, .slice (some ⟨g, 0, none⟩) 1 1, (.slice (some ⟨G, 0, none⟩) 1 c), x24, x25], defers := [] } W)
    (y15 y18 y19 y22 y23 : Value) (W : World) (hW : Below W1.heap.size W1 W) : wpAnyH Tryz.prog md ops Q S 6 #[true, true, false, true, true, false, false, true, true, false, false, false] { tmps := #[x0, x1, x2, x3, x4, x5, x6, x7, x8, x9, x10, x11, x12, vm, vc, y15, vm, vc, y18, y19, p20, .int .i64 4, y22, y23, x24, x25], defers := [] } W := by
  have st31 : ∀ (g : Nat) (W : World), RowF g W → Below W1.heap.size W1 W → wpAnyH Tryz.prog md ops Q S 2 #[true, true, true, true, true, true, true, true, true, true, false, false] { tmps := #[x0, x1, x2, x3, x4, x5, x6, x7, x8, x9, x10, x11, x12, vm, vc, pairV 0 0, vm, vc, pairV 0 0, .slice none 0 0, p20, .int .i64 4, .slice (some ⟨g, 0, none⟩) 1 1, y23, x24, x25], defers := [] } W := by
    intro g W hR hW
    refine wpAnyH_ready r31 (by simp) ?_
    refine AllReadyH.cons h10 (fun K hK => ?_) AllReadyH.nil
    · obtain ⟨j0, hj, hy0, hy1, hy2⟩ := info_parts (P := Tryz.prog) (e := 3) (z := .int .i64 0) (size := 1) (bytes := 8) (by kernel_rfl)
      refine step_append_lies W g10 (.tmp 19) (.tmp 22) _ e10 W1.heap.size 3 j0 _ 1 8 Tryz.underlying27 hj hy0 hy1 hy2 rfl (by decide) (.slice none 0 0) 0 [] rfl (World.ownsRow_nil W _ _ _) ⟨g, 0, none⟩ 1 1 [.int .i64 4] rfl rfl (fun j u hu => ?_) (fun u hu => ?_) (by decide) (by decide) (by decide) hW.size _ rfl (fun G c W2 q1 q2 q3 _ => ?_)
      · cases j with
        | zero =>
          obtain rfl : Value.int .i64 4 = u := by simpa using hu
          exact hR.1
        | succ j => simp at hu
      · obtain rfl : u = .int .i64 4 := by simpa using hu
        rfl
      · rw [d10]
        have hW2 := hW.grown q2 hW.size (fun k hk => by cases hk)
        exact hK.out _ _ (kS _ hW2) (fun _ => fin G c g W2 q1 hW2)
  have st21 : ∀ (g : Nat) (W : World), RowF g W → Below W1.heap.size W1 W → wpAnyH Tryz.prog md ops Q S 3 #[true, true, true, true, true, true, false, true, true, true, false, false] { tmps := #[x0, x1, x2, x3, x4, x5, x6, x7, x8, x9, x10, x11, x12, vm, vc, pairV 0 0, vm, vc, pairV 0 0, y19, p20, .int .i64 4, .slice (some ⟨g, 0, none⟩) 1 1, y23, x24, x25], defers := [] } W := by
    intro g W hR hW
    refine wpAnyH_ready r21 (by simp) ?_
    refine AllReadyH.cons h6 (fun K hK => ?_) AllReadyH.nil
    · rw [if_pos (wanted_noneB g6)]
      unfold Oper.wp
      rw [e6 _ _ (kM _ hW) rfl rfl]
      show K (Act.put _ o6.dst _) _
      rw [d6]
      exact hK.out _ _ (kS _ hW) (fun _ => st31 _ _ hR hW)
  have st11 : ∀ (g : Nat) (W : World), RowF g W → Below W1.heap.size W1 W → wpAnyH Tryz.prog md ops Q S 4 #[true, true, true, true, true, false, false, true, true, true, false, false] { tmps := #[x0, x1, x2, x3, x4, x5, x6, x7, x8, x9, x10, x11, x12, vm, vc, pairV 0 0, vm, vc, y18, y19, p20, .int .i64 4, .slice (some ⟨g, 0, none⟩) 1 1, y23, x24, x25], defers := [] } W := by
    intro g W hR hW
    refine wpAnyH_ready r11 (by simp) ?_
    refine AllReadyH.cons h5 (fun K hK => ?_) AllReadyH.nil
    · rw [if_pos (wanted_noneB g5)]
      refine e5 _ _ _ rfl (fun w2 hB2 => ?_)
      have hW2 := hW.trans (hB2.mono hW.size)
      exact hK.out _ _ (kS _ hW2) (fun _ => st21 _ _ (hR.keep hB2) hW2)
  have st01 : ∀ (g : Nat) (W : World), RowF g W → Below W1.heap.size W1 W → wpAnyH Tryz.prog md ops Q S 5 #[true, true, false, true, true, false, false, true, true, true, false, false] { tmps := #[x0, x1, x2, x3, x4, x5, x6, x7, x8, x9, x10, x11, x12, vm, vc, y15, vm, vc, y18, y19, p20, .int .i64 4, .slice (some ⟨g, 0, none⟩) 1 1, y23, x24, x25], defers := [] } W := by
    intro g W hR hW
    refine wpAnyH_ready r01 (by simp) ?_
    refine AllReadyH.cons h2 (fun K hK => ?_) AllReadyH.nil
    · rw [if_pos (wanted_noneB g2)]
      refine e2 _ _ _ rfl (fun w2 hB2 => ?_)
      have hW2 := hW.trans (hB2.mono hW.size)
      exact hK.out _ _ (kS _ hW2) (fun _ => st11 _ _ (hR.keep hB2) hW2)
  have st30 : ∀ (W : World), Below W1.heap.size W1 W → wpAnyH Tryz.prog md ops Q S 3 #[true, true, true, true, true, true, true, true, true, false, false, false] { tmps := #[x0, x1, x2, x3, x4, x5, x6, x7, x8, x9, x10, x11, x12, vm, vc, pairV 0 0, vm, vc, pairV 0 0, .slice none 0 0, p20, .int .i64 4, y22, y23, x24, x25], defers := [] } W := by
    intro W hW
    refine wpAnyH_ready r30 (by simp) ?_
    refine AllReadyH.cons h9 (fun K hK => ?_) AllReadyH.nil
    · rw [if_pos (wanted_noneB g9)]
      unfold Oper.wp
      rw [e9 _ _ rfl]
      show K (Act.put _ o9.dst _) _
      rw [d9]
      have hW2 := hW.alloc hW.size (.cells #[.int .i64 4] 3)
      exact hK.out _ _ (kS _ hW2) (fun _ => st31 _ _ (RowF.new _) hW2)
  have st20 : ∀ (W : World), Below W1.heap.size W1 W → wpAnyH Tryz.prog md ops Q S 4 #[true, true, true, true, true, true, false, true, true, false, false, false] { tmps := #[x0, x1, x2, x3, x4, x5, x6, x7, x8, x9, x10, x11, x12, vm, vc, pairV 0 0, vm, vc, pairV 0 0, y19, p20, .int .i64 4, y22, y23, x24, x25], defers := [] } W := by
    intro W hW
    refine wpAnyH_ready r20 (by simp) ?_
    refine AllReadyH.cons h6 (fun K hK => ?_) (AllReadyH.cons h9 (fun K hK => ?_) AllReadyH.nil)
    · rw [if_pos (wanted_noneB g6)]
      unfold Oper.wp
      rw [e6 _ _ (kM _ hW) rfl rfl]
      show K (Act.put _ o6.dst _) _
      rw [d6]
      exact hK.out _ _ (kS _ hW) (fun _ => st30 _ hW)
    · rw [if_pos (wanted_noneB g9)]
      unfold Oper.wp
      rw [e9 _ _ rfl]
      show K (Act.put _ o9.dst _) _
      rw [d9]
      have hW2 := hW.alloc hW.size (.cells #[.int .i64 4] 3)
      exact hK.out _ _ (kS _ hW2) (fun _ => st21 _ _ (RowF.new _) hW2)
  have st10 : ∀ (W : World), Below W1.heap.size W1 W → wpAnyH Tryz.prog md ops Q S 5 #[true, true, true, true, true, false, false, true, true, false, false, false] { tmps := #[x0, x1, x2, x3, x4, x5, x6, x7, x8, x9, x10, x11, x12, vm, vc, pairV 0 0, vm, vc, y18, y19, p20, .int .i64 4, y22, y23, x24, x25], defers := [] } W := by
    intro W hW
    refine wpAnyH_ready r10 (by simp) ?_
    refine AllReadyH.cons h5 (fun K hK => ?_) (AllReadyH.cons h9 (fun K hK => ?_) AllReadyH.nil)
    · rw [if_pos (wanted_noneB g5)]
      refine e5 _ _ _ rfl (fun w2 hB2 => ?_)
      have hW2 := hW.trans (hB2.mono hW.size)
      exact hK.out _ _ (kS _ hW2) (fun _ => st20 _ hW2)
    · rw [if_pos (wanted_noneB g9)]
      unfold Oper.wp
      rw [e9 _ _ rfl]
      show K (Act.put _ o9.dst _) _
      rw [d9]
      have hW2 := hW.alloc hW.size (.cells #[.int .i64 4] 3)
      exact hK.out _ _ (kS _ hW2) (fun _ => st11 _ _ (RowF.new _) hW2)
  refine wpAnyH_ready r00 (by simp) ?_
  refine AllReadyH.cons h2 (fun K hK => ?_) (AllReadyH.cons h9 (fun K hK => ?_) AllReadyH.nil)
  · rw [if_pos (wanted_noneB g2)]
    refine e2 _ _ _ rfl (fun w2 hB2 => ?_)
    have hW2 := hW.trans (hB2.mono hW.size)
    exact hK.out _ _ (kS _ hW2) (fun _ => st10 _ hW2)
  · rw [if_pos (wanted_noneB g9)]
    unfold Oper.wp
    rw [e9 _ _ rfl]
    show K (Act.put _ o9.dst _) _
    rw [d9]
    have hW2 := hW.alloc hW.size (.cells #[.int .i64 4] 3)
    exact hK.out _ _ (kS _ hW2) (fun _ => st01 _ _ (RowF.new _) hW2)
theorem bitHeights_ok (v : Value) (w : World) (hl : Sl w v [(0, 0, 4)]) :
    Calls Tryz.prog 81 #[v] w fun e w' => ∃ b g cap, e = .returned (.map (some b)) ∧ w'.heap[b]? = some (.map #[{ key := pairV 0 0, val := .slice (some ⟨g, 0, none⟩) 1 cap, born := 0 }] 1) ∧ w'.cell? ⟨g, 0, none⟩ = some (.int .i64 4) ∧ 1 ≤ cap ∧ w.heap.size ≤ b ∧ w.heap.size ≤ g ∧ Below w.heap.size w w' := by
  obtain ⟨A, cap, rfl⟩ := hl.form
  have hmk := run_makeMap (P := Tryz.prog) 118 w
  have hm0 : (w.alloc (.map #[] 0)).heap[w.heap.size]? = some (.map #[] 0) := heap_alloc_new w _
  have hB0 : Below w.heap.size w (w.alloc (.map #[] 0)) := (Below.refl _ _).alloc (Nat.le_refl _) _
  go_enter Tryz.func81, Tryz.ntmps81
  go_wp2
  go_loopw [9] (fun i wr => (i = .int .i64 0 ∧ wr.heap[w.heap.size]? = some (.map #[] 0) ∧ Below w.heap.size w wr) ∨ (i = .int .i64 1 ∧ ∃ g cap, wr.heap[w.heap.size]? = some (.map #[{ key := pairV 0 0, val := .slice (some ⟨g, 0, none⟩) 1 cap, born := 0 }] 1) ∧ wr.cell? ⟨g, 0, none⟩ = some (.int .i64 4) ∧ 1 ≤ cap ∧ w.heap.size ≤ g ∧ Below w.heap.size w wr)) (fun i _ => 1 - (intOf i).toNat)
  case atStart => exact .inl ⟨rfl, hm0, hB0⟩
  case round =>
    rename World => w1
    rcases hrel with ⟨rfl, hm, hB⟩ | ⟨rfl, g, cap, hm, hc, hcap, hg, hB⟩
    · obtain ⟨blk, off, x, y, z, rfl, -, hb, hc, r0, r1, r2⟩ := hl.cells (k := 0) (by simp)
      obtain ⟨rfl, rfl, rfl⟩ : x = 0 ∧ y = 0 ∧ z = 4 := by simpa using hc.symm
      rw [← hB.cell (p := ⟨blk, _, none⟩) hb] at r0 r1 r2
      simp only [Nat.zero_mul, Nat.add_zero] at r0 r1 r2
      obtain ⟨W1, hW⟩ : ∃ W1, W1 = w1.alloc (.cells #[.int .i64 0, .int .i64 0, .int .i64 4] 34) := ⟨_, rfl⟩
      have hrow : W1.heap[w1.heap.size]? = some (.cells #[.int .i64 0, .int .i64 0, .int .i64 4] 34 (0, 0)) := by rw [hW]; exact heap_alloc_new w1 _
      have hlt : w1.heap.size < W1.heap.size := (Array.getElem?_eq_some_iff.1 hrow).1
      have hwl : w.heap.size < w1.heap.size := (Array.getElem?_eq_some_iff.1 hm).1
      have hB1 : Below w.heap.size w W1 := by rw [hW]; exact hB.alloc (Nat.le_of_lt hwl) _
      have hm1 : W1.heap[w.heap.size]? = some (.map #[] 0) := by rw [hW]; exact (Below.heap_alloc _ _ _ hwl).trans hm
      have kk : ∀ V, Below W1.heap.size W1 V → V.heap[w.heap.size]? = some (.map #[] 0) ∧ V.cell? ⟨w1.heap.size, 0, none⟩ = some (.int .i64 0) ∧ V.cell? ⟨w1.heap.size, 1, none⟩ = some (.int .i64 0) ∧ V.cell? ⟨w1.heap.size, 2, none⟩ = some (.int .i64 4) := fun V h => ⟨(h.block _ (by omega)).trans hm1, three_cellsB ((h.block _ hlt).trans hrow)⟩
      clear hc hl hmk hm0 hB0 hm
      go_upto_region 5 with fail
      rw [← hW]
      clear hW r0 r1 r2 hrow
      have hV := (Below.refl W1.heap.size W1).drew
      have kS : ∀ V, Below W1.heap.size W1 V → V.cell? ⟨w1.heap.size, 0, none⟩ = some (.int .i64 0) ∧ V.cell? ⟨w1.heap.size, 1, none⟩ = some (.int .i64 0) ∧ V.cell? ⟨w1.heap.size, 2, none⟩ = some (.int .i64 4) := fun V h => (kk V h).2
      have kM : ∀ V, Below W1.heap.size W1 V → V.heap[w.heap.size]? = some (.map #[] 0) := fun V h => (kk V h).1
      refine wp_region_held_drew (S := fun w' => w'.cell? ⟨w1.heap.size, 0, none⟩ = some (.int .i64 0) ∧ w'.cell? ⟨w1.heap.size, 1, none⟩ = some (.int .i64 0) ∧ w'.cell? ⟨w1.heap.size, 2, none⟩ = some (.int .i64 4)) (by kernel_rfl) (kS _ hV) (fun hHeld => ?_)
      refine held_yes 0 (some 13) (.map (some w.heap.size)) rfl rfl (by kernel_rfl) (by kernel_rfl) (by kernel_rfl) (fun _ _ _ h => h) rfl (fun w' hS => by obtain ⟨t0, t1, t2⟩ := hS; go_simp) hHeld ?_
      try simp only [Act.put, List.setIfInBounds_toArray, List.set_cons_zero, List.set_cons_succ]
      refine held_yes 1 (some 14) (.agg #[.int .i64 0, .int .i64 0, .int .i64 4]) rfl rfl (by kernel_rfl) (by kernel_rfl) (by kernel_rfl) (fun _ _ _ h => h) rfl (fun w' hS => by obtain ⟨t0, t1, t2⟩ := hS; go_simp) hHeld ?_
      try simp only [Act.put, List.setIfInBounds_toArray, List.set_cons_zero, List.set_cons_succ]
      refine held_yes 3 (some 16) (.map (some w.heap.size)) rfl rfl (by kernel_rfl) (by kernel_rfl) (by kernel_rfl) (fun _ _ _ h => h) rfl (fun w' hS => by obtain ⟨t0, t1, t2⟩ := hS; go_simp) hHeld ?_
      try simp only [Act.put, List.setIfInBounds_toArray, List.set_cons_zero, List.set_cons_succ]
      refine held_yes 4 (some 17) (.agg #[.int .i64 0, .int .i64 0, .int .i64 4]) rfl rfl (by kernel_rfl) (by kernel_rfl) (by kernel_rfl) (fun _ _ _ h => h) rfl (fun w' hS => by obtain ⟨t0, t1, t2⟩ := hS; go_simp) hHeld ?_
      try simp only [Act.put, List.setIfInBounds_toArray, List.set_cons_zero, List.set_cons_succ]
      refine held_yes 7 (some 20) (.pointer (some ⟨w1.heap.size, 2, none⟩)) rfl rfl (by kernel_rfl) (by kernel_rfl) (by kernel_rfl) (fun _ _ _ h => h) rfl (fun w' hS => by obtain ⟨t0, t1, t2⟩ := hS; go_simp) hHeld ?_
      try simp only [Act.put, List.setIfInBounds_toArray, List.set_cons_zero, List.set_cons_succ]
      refine held_yes 8 (some 21) (.int .i64 4) rfl rfl (by kernel_rfl) (by kernel_rfl) (by kernel_rfl) (fun _ _ _ h => h) rfl (fun w' hS => by obtain ⟨t0, t1, t2⟩ := hS; go_simp) hHeld ?_
      try simp only [Act.put, List.setIfInBounds_toArray, List.set_cons_zero, List.set_cons_succ]
      refine hts_region W1 w.heap.size _ _ _ _ _ _ _ _ _ _ _ _ _ _ _ _ _ _ kS kM rfl rfl ?e2 rfl rfl ?e5 rfl rfl rfl ?e6 rfl rfl rfl ?e9 rfl rfl rfl rfl (by kernel_rfl) (by kernel_rfl) (by kernel_rfl) (by kernel_rfl) (by kernel_rfl) (by kernel_rfl) (by kernel_rfl) (by kernel_rfl) ?fin _ _ _ _ _ _ hV
      case e2 =>
        intro a V K ha hk
        go_simp
        refine (bitColumn_ok 0 0 4 V).mono ?_
        rintro e w2 ⟨rfl, hB2⟩
        exact hk w2 hB2
      case e5 =>
        intro a V K ha hk
        go_simp
        refine (bitColumn_ok 0 0 4 V).mono ?_
        rintro e w2 ⟨rfl, hB2⟩
        exact hk w2 hB2
      case e6 =>
        intro a V hm3 h1 h2
        have lk := lookup_none hm3
        go_simp
      case e9 =>
        intro a V h1
        have h2 : a.tmps[21]?.getD undef = .int .i64 4 := by rw [← h1]; simp
        go_simp
      case fin =>
        intro G c g W hown hW
        have hmW := kM _ hW
        have hu : (Instr.mapUpdate 118 (.map (some w.heap.size)) (pairV 0 0) (.slice (some ⟨G, 0, none⟩) 1 c)).run Tryz.prog W = .ok () (updW W w.heap.size (.slice (some ⟨G, 0, none⟩) 1 c)) := update_eq hmW (.slice (some ⟨G, 0, none⟩) 1 c)
        have hGc : W.cell? ⟨G, 0, none⟩ = some (.int .i64 4) := World.ownsRow.cellAt hown 0 (by decide)
        obtain ⟨hG1, hc1⟩ : W1.heap.size ≤ G ∧ 1 ≤ c := by
          rcases hown.2 with ⟨h1, -⟩ | ⟨g', cap', cur, h1, h2, h3, h4, h5, -⟩
          · cases h1
          · injection h1 with e1 e2 e3
            injection e1 with e1
            injection e1 with e1
            subst e1
            exact ⟨h2, by omega⟩
        have hne2 : w1.heap.size ≠ w.heap.size := by omega
        have hsame : ∀ k, k ≠ w.heap.size → (updW W w.heap.size (.slice (some ⟨G, 0, none⟩) 1 c)).heap[k]? = W.heap[k]? := fun k hk => by
          unfold updW ChangeMaps.setBlock
          simp only
          rw [Array.getElem?_setIfInBounds_ne (Ne.symm hk)]
        have hat : (updW W w.heap.size (.slice (some ⟨G, 0, none⟩) 1 c)).heap[w.heap.size]? = some (.map #[{ key := pairV 0 0, val := .slice (some ⟨G, 0, none⟩) 1 c, born := 0 }] 1) := by
          have := (Array.getElem?_eq_some_iff.1 hmW).1
          unfold updW ChangeMaps.setBlock
          simp [this]
        have hsz : (updW W w.heap.size (.slice (some ⟨G, 0, none⟩) 1 c)).heap.size = W.heap.size := by
          unfold updW ChangeMaps.setBlock
          simp
        have hXW := hB1.trans (hW.mono hB1.size)
        have hXf : Below w.heap.size w (updW W w.heap.size (.slice (some ⟨G, 0, none⟩) 1 c)) := ⟨hXW.os, hXW.tape, hXW.output, by rw [hsz]; exact hXW.size, fun k hk => (hsame k (by omega)).trans (hXW.block k hk)⟩
        have hrowW := kS _ hW
        have HS : (updW W w.heap.size (.slice (some ⟨G, 0, none⟩) 1 c)).cell? ⟨w1.heap.size, 0, none⟩ = some (.int .i64 0) ∧ (updW W w.heap.size (.slice (some ⟨G, 0, none⟩) 1 c)).cell? ⟨w1.heap.size, 1, none⟩ = some (.int .i64 0) ∧ (updW W w.heap.size (.slice (some ⟨G, 0, none⟩) 1 c)).cell? ⟨w1.heap.size, 2, none⟩ = some (.int .i64 4) := by
          simp only [World.cell?, hsame _ hne2]
          exact hrowW
        have HG : (updW W w.heap.size (.slice (some ⟨G, 0, none⟩) 1 c)).cell? ⟨G, 0, none⟩ = some (.int .i64 4) := by
          rw [← hGc]
          simp only [World.cell?, hsame G (by omega)]
        generalize updW W w.heap.size (.slice (some ⟨G, 0, none⟩) 1 c) = W9 at hu hat hXf HS HG
        clear hsame hsz hXW hrowW hown
        refine wpAnyH_ready (rs := [11]) (by kernel_rfl) (by simp) ?_
        refine AllReadyH.cons rfl (fun K hK => ?_) AllReadyH.nil
        go_simp
        refine hK.out _ _ HS (fun _ => ?_)
        refine wpAnyH_done (by kernel_rfl) ?_ _
        clear hK K
        go_wp2
        exact ⟨.inr ⟨rfl, G, c, hat, HG, hc1, by omega, hXf⟩, by decide⟩
    · go_wp2
      go_ret
      exact ⟨_, g, cap, rfl, hm, hc, hcap, Nat.le_refl _, hg, hB⟩
end Go.Proofs
