/- insert: isIn, obstacleOf, meet. -/
import Derived.Test.YtllameiilljelaaInsC
namespace Go.Proofs
open Go.RowKit
set_option maxHeartbeats 8000000
set_option maxRecDepth 1000000
instance isInDec (b : Cel × Cel) (s : Cel) : Decidable (isInB b s) := by unfold isInB; infer_instance
theorem isIn_ok (b : Cel × Cel) (x y z : Int) (hw : b.1.1 ≤ b.2.1 ∧ b.1.2.1 ≤ b.2.2.1 ∧ b.1.2.2 ≤ b.2.2.2) (w : World) :
    Calls Try.prog 50 #[boxV b, .agg #[.int .i64 x, .int .i64 y, .int .i64 z]] w fun e w' => e = .returned (.bool (decide (isInB b (x, y, z)))) ∧ Below w.heap.size w w' := by
  obtain ⟨⟨lx, ly, lz⟩, ⟨ux, uy, uz⟩⟩ := b
  unfold boxV
  dsimp only at hw ⊢
  have hB : ∀ o, Below w.heap.size w (((w.alloc (.cells #[.int .i64 lx, .int .i64 ly, .int .i64 lz, .int .i64 ux, .int .i64 uy, .int .i64 uz] 45)).alloc (.cells #[.int .i64 x, .int .i64 y, .int .i64 z] 26)).alloc o) := fun o => (((Below.refl _ _).alloc (Nat.le_refl _) _).alloc (by simp) _).alloc (by simp; omega) _
  go_enter Try.func50, Try.ntmps50
  go_wp2_with fail
  all_goals go_ret
  all_goals first
    | (rw [decide_eq_true (show isInB ((lx, ly, lz), (ux, uy, uz)) (x, y, z) by unfold isInB; dsimp only; omega)]; exact ⟨rfl, hB _⟩)
    | (rw [decide_eq_false (show ¬ isInB ((lx, ly, lz), (ux, uy, uz)) (x, y, z) by unfold isInB; dsimp only; omega)]; exact ⟨rfl, hB _⟩)
/-- What obstacleOf keeps of a base. -/
def obsV (m : Nat) (b : Cel × Cel) : Value := .agg #[.map (some m), .int .i64 b.1.1, .int .i64 b.1.2.1, .int .i64 b.1.2.2, .int .i64 b.2.1, .int .i64 b.2.2.1, .int .i64 b.2.2.2]
/-- The box of a base, or of none. -/
def baseB (l : List Cel) : Cel × Cel := match l with
  | [] => boxO
  | h :: t => bndK h (h :: t) (h :: t).length
theorem bound_any (l : List Cel) (v : Value) (w : World) (hl : Sl w v l) (hc : chkI l = 0) :
    Calls Try.prog 18 #[v] w fun e w' => (∃ r : Int, e = .returned (.tuple #[boxV (baseB l), .int .i64 r])) ∧ Below w.heap.size w w' := by
  cases l with
  | nil => exact (bound0 v w hl).mono fun e w' h => ⟨⟨_, h.1⟩, h.2⟩
  | cons h t => exact (Bound_ok (h :: t) h v w hl rfl hc).mono fun e w' h => ⟨⟨_, h.1⟩, h.2⟩
theorem base_in {l : List Cel} {m : Int} (hm : 0 ≤ m) (hn : ∀ c ∈ l, Near c m) : Near (baseB l).1 m ∧ Near (baseB l).2 m ∧ InBox l (baseB l) ∧ ((baseB l).1.1 ≤ (baseB l).2.1 ∧ (baseB l).1.2.1 ≤ (baseB l).2.2.1 ∧ (baseB l).1.2.2 ≤ (baseB l).2.2.2) := by
  cases l with
  | nil =>
    have e : baseB [] = ((0, 0, 0), (0, 0, 0)) := rfl
    rw [e]
    unfold Near
    dsimp only
    exact ⟨by omega, by omega, fun c h => by simp at h, by omega⟩
  | cons h t =>
    obtain ⟨h1, h2, h3⟩ := box_in (l := h :: t) (h := h) rfl hn
    have h4 := h3 h (List.mem_cons_self ..)
    have e : baseB (h :: t) = bndK h (h :: t) (h :: t).length := rfl
    rw [e]
    exact ⟨h1, h2, h3, by omega⟩
theorem seven_cells {V : World} {B : Nat} {c0 c1 c2 c3 c4 c5 c6 : Value} {T : TypeId} (h : V.heap[B]? = some (.cells #[c0, c1, c2, c3, c4, c5, c6] T (0, 0))) :
    (V.cell? ⟨B, 0, none⟩ = some c0 ∧ V.cell? ⟨B, 1, none⟩ = some c1 ∧ V.cell? ⟨B, 2, none⟩ = some c2 ∧ V.cell? ⟨B, 3, none⟩ = some c3 ∧ V.cell? ⟨B, 4, none⟩ = some c4 ∧ V.cell? ⟨B, 5, none⟩ = some c5 ∧ V.cell? ⟨B, 6, none⟩ = some c6) ∧
    (V.frozen? ⟨B, 0, none⟩ = false ∧ V.frozen? ⟨B, 1, none⟩ = false ∧ V.frozen? ⟨B, 2, none⟩ = false ∧ V.frozen? ⟨B, 3, none⟩ = false ∧ V.frozen? ⟨B, 4, none⟩ = false ∧ V.frozen? ⟨B, 5, none⟩ = false ∧ V.frozen? ⟨B, 6, none⟩ = false) := by
  have zl := fun j => cell_of_row V B j _ _ _ h
  have fz := fun j => frozen_of_row V B j _ _ h
  have z0 := zl 0
  have z1 := zl 1
  have z2 := zl 2
  have z3 := zl 3
  have z4 := zl 4
  have z5 := zl 5
  have z6 := zl 6
  simp at z0 z1 z2 z3 z4 z5 z6
  exact ⟨⟨z0, z1, z2, z3, z4, z5, z6⟩, fz 0, fz 1, fz 2, fz 3, fz 4, fz 5, fz 6⟩
theorem six_stored {W : World} {B : Nat} {c0 c1 c2 c3 c4 c5 c6 d1 d2 d3 d4 d5 d6 : Value} {T : TypeId} (h : W.heap[B]? = some (.cells #[c0, c1, c2, c3, c4, c5, c6] T (0, 0))) :
    ((((((W.setCell ⟨B, 1, none⟩ d1).setCell ⟨B, 2, none⟩ d2).setCell ⟨B, 3, none⟩ d3).setCell ⟨B, 4, none⟩ d4).setCell ⟨B, 5, none⟩ d5).setCell ⟨B, 6, none⟩ d6).heap[B]? = some (.cells #[c0, d1, d2, d3, d4, d5, d6] T (0, 0)) := by
  have hz := (heap_setCell_same _ B 6 _ _ d6 (heap_setCell_same _ B 5 _ _ d5 (heap_setCell_same _ B 4 _ _ d4 (heap_setCell_same _ B 3 _ _ d3 (heap_setCell_same _ B 2 _ _ d2 (heap_setCell_same _ B 1 _ _ d1 h))))))
  simpa using hz
theorem seven_stored {W : World} {B : Nat} {c0 c1 c2 c3 c4 c5 c6 d0 d1 d2 d3 d4 d5 d6 : Value} {T : TypeId} (h : W.heap[B]? = some (.cells #[c0, c1, c2, c3, c4, c5, c6] T (0, 0))) :
    (((((((W.setCell ⟨B, 0, none⟩ d0).setCell ⟨B, 1, none⟩ d1).setCell ⟨B, 2, none⟩ d2).setCell ⟨B, 3, none⟩ d3).setCell ⟨B, 4, none⟩ d4).setCell ⟨B, 5, none⟩ d5).setCell ⟨B, 6, none⟩ d6).heap[B]? = some (.cells #[d0, d1, d2, d3, d4, d5, d6] T (0, 0)) := by
  have hz := (heap_setCell_same _ B 6 _ _ d6 (heap_setCell_same _ B 5 _ _ d5 (heap_setCell_same _ B 4 _ _ d4 (heap_setCell_same _ B 3 _ _ d3 (heap_setCell_same _ B 2 _ _ d2 (heap_setCell_same _ B 1 _ _ d1 (heap_setCell_same _ B 0 _ _ d0 h)))))))
  simpa using hz
theorem obstacleOf_ok (l : List Cel) (v : Value) (w : World) (hl : Sl w v l) (hc : chkI l = 0) :
    Calls Try.prog 24 #[v] w fun e w' => ∃ m, e = .returned (obsV m (baseB l)) ∧ w.heap.size ≤ m ∧ CSet w' m (setL l) ∧ Below w.heap.size w w' := by
  have hbd := fun W (h : Below w.heap.size w W) => bound_any l v W (hl.below h) hc
  have hlm : l.length ≤ maxLen := by have := (chkI_zero.1 hc).1; unfold maxLen; omega
  unfold maxLen at hlm
  obtain ⟨A, cap, rfl⟩ := hl.form
  obtain ⟨oz, hoz⟩ : ∃ oz, oz = Obj.cells #[.map none, .int .i64 0, .int .i64 0, .int .i64 0, .int .i64 0, .int .i64 0, .int .i64 0] 56 := ⟨_, rfl⟩
  have hmk : (Instr.makeMap 54 (some (.int .i64 l.length))).run Try.prog (w.alloc oz) = .ok (.map (some (w.heap.size + 1))) ((w.alloc oz).alloc (.map #[] 0)) := by
    have := run_makeMap_some 54 l.length (w.alloc oz) ⟨_, _, Try.underlying54⟩
    simpa using this
  have hmade : CSet ((w.alloc oz).alloc (.map #[] 0)) (w.heap.size + 1) (setL (l.take 0)) := by
    have := CMap.made (w.alloc oz)
    simpa [setL, CSet] using this
  rw [hoz] at hmk hmade
  generalize baseB l = bx at hbd ⊢
  obtain ⟨⟨lx, ly, lz⟩, ⟨ux, uy, uz⟩⟩ := bx
  unfold boxV at hbd
  unfold obsV
  dsimp only at hbd ⊢
  obtain ⟨W0, hW⟩ : ∃ W0, W0 = ((w.alloc (.cells #[.map none, .int .i64 0, .int .i64 0, .int .i64 0, .int .i64 0, .int .i64 0, .int .i64 0] 56)).alloc (.map #[] 0)).alloc (.cells #[.map (some (w.heap.size + 1)), .int .i64 0, .int .i64 0, .int .i64 0, .int .i64 0, .int .i64 0, .int .i64 0] 56) := ⟨_, rfl⟩
  have hB0 : Below w.heap.size w W0 := by subst hW; exact (((Below.refl _ _).alloc (Nat.le_refl _) _).alloc (by simp) _).alloc (by simp; omega) _
  have hs0 : CSet W0 (w.heap.size + 1) (setL (l.take 0)) := by subst hW; exact hmade.alloc _
  have ho0 : W0.heap[w.heap.size + 1 + 1]? = some (.cells #[.map (some (w.heap.size + 1)), .int .i64 0, .int .i64 0, .int .i64 0, .int .i64 0, .int .i64 0, .int .i64 0] 56 (0, 0)) := by
    have := heap_alloc_new ((w.alloc (.cells #[.map none, .int .i64 0, .int .i64 0, .int .i64 0, .int .i64 0, .int .i64 0, .int .i64 0] 56)).alloc (.map #[] 0)) (.cells #[.map (some (w.heap.size + 1)), .int .i64 0, .int .i64 0, .int .i64 0, .int .i64 0, .int .i64 0, .int .i64 0] 56)
    rw [← hW] at this
    simpa using this
  have hz0 : W0.heap[w.heap.size]? = some (.cells #[.map none, .int .i64 0, .int .i64 0, .int .i64 0, .int .i64 0, .int .i64 0, .int .i64 0] 56 (0, 0)) := by
    subst hW
    rw [Below.heap_alloc _ _ _ (by simp; omega), Below.heap_alloc _ _ _ (by simp)]
    exact heap_alloc_new w _
  go_enter Try.func24, Try.ntmps24
  go_wp2_with fail
  rw [← hW]
  clear hW hmk hmade hoz
  go_loopw [12] (fun i wr => ∃ k : Nat, k ≤ l.length ∧ i = .int .i64 k ∧ CSet wr (w.heap.size + 1) (setL (l.take k)) ∧ wr.heap[w.heap.size + 1 + 1]? = some (.cells #[.map (some (w.heap.size + 1)), .int .i64 0, .int .i64 0, .int .i64 0, .int .i64 0, .int .i64 0, .int .i64 0] 56 (0, 0)) ∧ wr.heap[w.heap.size]? = some (.cells #[.map none, .int .i64 0, .int .i64 0, .int .i64 0, .int .i64 0, .int .i64 0, .int .i64 0] 56 (0, 0)) ∧ Below w.heap.size w wr) (fun i _ => l.length - (intOf i).toNat)
  case atStart => exact ⟨0, Nat.zero_le _, rfl, hs0, ho0, hz0, hB0⟩
  case round =>
    clear hs0 ho0 hz0 hB0
    obtain ⟨k, hk, rfl, hset, ho, hz, hB⟩ := hrel
    rename World => w1
    rcases Nat.lt_or_eq_of_le hk with hkn | rfl
    · obtain ⟨b, o, x, y, z, rfl, -, hb, hc', r0, r1, r2⟩ := hl.cells hkn
      have hsz := hB.size
      rw [← hB.cell (p := ⟨b, _, none⟩) hb] at r0 r1 r2
      have hset1 := hset.alloc (.cells #[.int .i64 x, .int .i64 y, .int .i64 z] 26)
      have hlo : w.heap.size + 1 + 1 < w1.heap.size := (Array.getElem?_eq_some_iff.1 ho).1
      have ho' := (Below.heap_alloc w1 (.cells #[.int .i64 x, .int .i64 y, .int .i64 z] 26) _ hlo).trans ho
      have hz' := (Below.heap_alloc w1 (.cells #[.int .i64 x, .int .i64 y, .int .i64 z] 26) _ (by omega : w.heap.size < w1.heap.size)).trans hz
      have hm1 := (seven_cells ho').1.1
      have HT := Lib.hid (setL_take hc')
      have HO := Lib.hid ho'
      have HZ := Lib.hid hz'
      clear hl hset hbd ho hz ho' hz' hc hc'
      go_wp2_with (at_mapUpdate; refine wpList_update_set rfl _ _ _ _ rfl Try.underlying54 (w.heap.size + 1) _ rfl hset1 (x, y, z) rfl rfl ?_; intro w2 hset2 hg2)
      refine ⟨⟨k + 1, hkn, rfl, by rw [HT.out]; exact hset2, ?_, ?_, (hB.alloc hsz _).grown hg2 (by simp; omega) (fun j e => by cases e; omega)⟩, by simp [intOf]; omega⟩
      · exact (hg2.block _ (by simp; omega) (fun e => by injection e with e; omega)).trans HO.out
      · exact (hg2.block _ (by simp; omega) (fun e => by injection e with e; omega)).trans HZ.out
    · rw [List.take_length] at hset
      have q := hbd _ hB
      clear hl hbd hc
      go_wp2_with fail
      refine q.mono ?_
      rintro e w3 ⟨⟨r, rfl⟩, hB3⟩
      have ho3 := (hB3.block _ (Array.getElem?_eq_some_iff.1 ho).1).trans ho
      have hz3 := (hB3.block _ (Array.getElem?_eq_some_iff.1 hz).1).trans hz
      have hset3 := hset.below hB3 hset.lt
      have hB13 := hB.trans (hB3.mono hB.size)
      obtain ⟨⟨s0, s1, s2, s3, s4, s5, s6⟩, g0, g1, g2, g3, g4, g5, g6⟩ := seven_cells ho3
      obtain ⟨⟨p0, p1, p2, p3, p4, p5, p6⟩, q0, q1, q2, q3, q4, q5, q6⟩ := seven_cells hz3
      have HO := Lib.hid ho3
      have HZ := Lib.hid hz3
      have ne2 : w.heap.size + 1 + 1 ≠ w.heap.size := by omega
      clear ho hz hset hB hB3 q ho3 hz3
      have far : ∀ (W : World) (b k o : Nat) (u : Value), k ≠ b → (W.setCell ⟨b, o, none⟩ u).heap[k]? = W.heap[k]? := fun W b k o u h => Below.heap_setCell W ⟨b, o, none⟩ u k h
      have hl0 := Nat.le_refl w.heap.size
      have hl2 : w.heap.size ≤ w.heap.size + 1 + 1 := by omega
      have hz5 : ((((((w3.setCell ⟨w.heap.size + 1 + 1, 1, none⟩ (.int .i64 lx)).setCell ⟨w.heap.size + 1 + 1, 2, none⟩ (.int .i64 ly)).setCell ⟨w.heap.size + 1 + 1, 3, none⟩ (.int .i64 lz)).setCell ⟨w.heap.size + 1 + 1, 4, none⟩ (.int .i64 ux)).setCell ⟨w.heap.size + 1 + 1, 5, none⟩ (.int .i64 uy)).setCell ⟨w.heap.size + 1 + 1, 6, none⟩ (.int .i64 uz)).heap[w.heap.size]? = some (.cells #[.map none, .int .i64 0, .int .i64 0, .int .i64 0, .int .i64 0, .int .i64 0, .int .i64 0] 56 (0, 0)) := by
        repeat rw [far _ (w.heap.size + 1 + 1) w.heap.size _ _ (by omega)]
        exact HZ.out
      have hF := seven_stored (d0 := (.map (some (w.heap.size + 1)))) (d1 := (.int .i64 lx)) (d2 := (.int .i64 ly)) (d3 := (.int .i64 lz)) (d4 := (.int .i64 ux)) (d5 := (.int .i64 uy)) (d6 := (.int .i64 uz)) hz5
      have hFm : CSet (((((((((((((w3.setCell ⟨w.heap.size + 1 + 1, 1, none⟩ (.int .i64 lx)).setCell ⟨w.heap.size + 1 + 1, 2, none⟩ (.int .i64 ly)).setCell ⟨w.heap.size + 1 + 1, 3, none⟩ (.int .i64 lz)).setCell ⟨w.heap.size + 1 + 1, 4, none⟩ (.int .i64 ux)).setCell ⟨w.heap.size + 1 + 1, 5, none⟩ (.int .i64 uy)).setCell ⟨w.heap.size + 1 + 1, 6, none⟩ (.int .i64 uz)).setCell ⟨w.heap.size, 0, none⟩ (.map (some (w.heap.size + 1)))).setCell ⟨w.heap.size, 1, none⟩ (.int .i64 lx)).setCell ⟨w.heap.size, 2, none⟩ (.int .i64 ly)).setCell ⟨w.heap.size, 3, none⟩ (.int .i64 lz)).setCell ⟨w.heap.size, 4, none⟩ (.int .i64 ux)).setCell ⟨w.heap.size, 5, none⟩ (.int .i64 uy)).setCell ⟨w.heap.size, 6, none⟩ (.int .i64 uz)) (w.heap.size + 1) (setL l) := by
        refine CMap.keep hset3 ?_
        repeat rw [far _ w.heap.size (w.heap.size + 1) _ _ (by omega)]
        repeat rw [far _ (w.heap.size + 1 + 1) (w.heap.size + 1) _ _ (by omega)]
      have hBF := (((((((((((((hB13.setCell (p := ⟨w.heap.size + 1 + 1, 1, none⟩) hl2 (.int .i64 lx)).setCell (p := ⟨w.heap.size + 1 + 1, 2, none⟩) hl2 (.int .i64 ly)).setCell (p := ⟨w.heap.size + 1 + 1, 3, none⟩) hl2 (.int .i64 lz)).setCell (p := ⟨w.heap.size + 1 + 1, 4, none⟩) hl2 (.int .i64 ux)).setCell (p := ⟨w.heap.size + 1 + 1, 5, none⟩) hl2 (.int .i64 uy)).setCell (p := ⟨w.heap.size + 1 + 1, 6, none⟩) hl2 (.int .i64 uz)).setCell (p := ⟨w.heap.size, 0, none⟩) hl0 (.map (some (w.heap.size + 1)))).setCell (p := ⟨w.heap.size, 1, none⟩) hl0 (.int .i64 lx)).setCell (p := ⟨w.heap.size, 2, none⟩) hl0 (.int .i64 ly)).setCell (p := ⟨w.heap.size, 3, none⟩) hl0 (.int .i64 lz)).setCell (p := ⟨w.heap.size, 4, none⟩) hl0 (.int .i64 ux)).setCell (p := ⟨w.heap.size, 5, none⟩) hl0 (.int .i64 uy)).setCell (p := ⟨w.heap.size, 6, none⟩) hl0 (.int .i64 uz))
      go_wp2
      exact bodyPost_ret (results_cell_row rfl _ _ _ 56 #[.map (some (w.heap.size + 1)), .int .i64 lx, .int .i64 ly, .int .i64 lz, .int .i64 ux, .int .i64 uy, .int .i64 uz] (0, 0) _ rfl hF Try.underlying56 rfl (by kernel_rfl)) rfl ⟨_, rfl, by omega, hFm, hBF⟩
theorem meet_ok (m : Nat) (bx : Cel × Cel) (part S : List Cel) (v : Value) (sx sy sz : Int) (w : World) (hl : Sl w v part) (hn : part.length ≤ 4096) (hp : ∀ c ∈ part, Near c 1000) (hs : Near (sx, sy, sz) 200000) (hS : CSet w m S) :
    Calls Try.prog 51 #[obsV m bx, v, .agg #[.int .i64 sx, .int .i64 sy, .int .i64 sz]] w fun e w' => ∃ (x y z : Int) (h : Bool), e = .returned (.tuple #[.agg #[.int .i64 x, .int .i64 y, .int .i64 z], .bool h]) ∧
      ((h = true ∧ (hitL part S (sx, sy, sz)).head? = some (x, y, z)) ∨ (h = false ∧ (x, y, z) = (0, 0, 0) ∧ hitL part S (sx, sy, sz) = [])) ∧ Below w.heap.size w w' := by
  obtain ⟨A, cap, rfl⟩ := hl.form
  obtain ⟨⟨b1, b2, b3⟩, ⟨b4, b5, b6⟩⟩ := bx
  unfold obsV
  dsimp only
  obtain ⟨W0, hW⟩ : ∃ W0, W0 = ((w.alloc (.cells #[.map (some m), .int .i64 b1, .int .i64 b2, .int .i64 b3, .int .i64 b4, .int .i64 b5, .int .i64 b6] 56)).alloc (.cells #[.int .i64 sx, .int .i64 sy, .int .i64 sz] 26)).alloc (.cells #[.int .i64 0, .int .i64 0, .int .i64 0] 26) := ⟨_, rfl⟩
  have hB0 : Below w.heap.size w W0 := by subst hW; exact (((Below.refl _ _).alloc (Nat.le_refl _) _).alloc (by simp) _).alloc (by simp; omega) _
  have hsz0 : W0.heap.size = w.heap.size + 1 + 1 + 1 := by subst hW; simp
  have c0 : W0.cell? ⟨w.heap.size, 0, none⟩ = some (.map (some m)) := by subst hW; go_simp
  have c1 : W0.cell? ⟨w.heap.size + 1, 0, none⟩ = some (.int .i64 sx) := by subst hW; go_simp
  have c2 : W0.cell? ⟨w.heap.size + 1, 1, none⟩ = some (.int .i64 sy) := by subst hW; go_simp
  have c3 : W0.cell? ⟨w.heap.size + 1, 2, none⟩ = some (.int .i64 sz) := by subst hW; go_simp
  have hr0 : W0.heap[w.heap.size + 1 + 1]? = some (.cells #[.int .i64 0, .int .i64 0, .int .i64 0] 26 (0, 0)) := by
    have := heap_alloc_new ((w.alloc (.cells #[.map (some m), .int .i64 b1, .int .i64 b2, .int .i64 b3, .int .i64 b4, .int .i64 b5, .int .i64 b6] 56)).alloc (.cells #[.int .i64 sx, .int .i64 sy, .int .i64 sz] 26)) (.cells #[.int .i64 0, .int .i64 0, .int .i64 0] 26)
    rw [← hW] at this
    simpa using this
  have kk : ∀ V, Below W0.heap.size W0 V → V.cell? ⟨w.heap.size, 0, none⟩ = some (.map (some m)) ∧ V.cell? ⟨w.heap.size + 1, 0, none⟩ = some (.int .i64 sx) ∧ V.cell? ⟨w.heap.size + 1, 1, none⟩ = some (.int .i64 sy) ∧ V.cell? ⟨w.heap.size + 1, 2, none⟩ = some (.int .i64 sz) := fun V h =>
    ⟨(h.cell (p := ⟨w.heap.size, 0, none⟩) (by show w.heap.size < _; omega)).trans c0, (h.cell (p := ⟨w.heap.size + 1, 0, none⟩) (by show w.heap.size + 1 < _; omega)).trans c1, (h.cell (p := ⟨w.heap.size + 1, 1, none⟩) (by show w.heap.size + 1 < _; omega)).trans c2, (h.cell (p := ⟨w.heap.size + 1, 2, none⟩) (by show w.heap.size + 1 < _; omega)).trans c3⟩
  have hR : ∀ V, Below W0.heap.size W0 V → V.heap[w.heap.size + 1 + 1]? = some (.cells #[.int .i64 0, .int .i64 0, .int .i64 0] 26 (0, 0)) := fun V h => (h.block _ (by omega)).trans hr0
  have hSV : ∀ V, Below W0.heap.size W0 V → CSet V m S := fun V h => (hS.below hB0 hS.lt).below h (by have := hS.lt; omega)
  have hlV : ∀ V, Below W0.heap.size W0 V → Sl V (.slice A part.length cap) part := fun V h => hl.below (hB0.trans (h.mono hB0.size))
  have hX0 : Below W0.heap.size W0 W0 := Below.refl _ _
  clear hl hS c0 c1 c2 c3 hr0
  go_enter Try.func51, Try.ntmps51
  go_wp2_with fail
  rw [← hW]
  clear hW
  go_loopw [13] (fun i wr => ∃ k : Nat, k ≤ part.length ∧ i = .int .i64 k ∧ Below W0.heap.size W0 wr ∧ ∀ j d, j < k → part[j]? = some d → shiftC (sx, sy, sz) d ∉ S) (fun i _ => part.length - (intOf i).toNat)
  case atStart => exact ⟨0, Nat.zero_le _, rfl, hX0, fun j d h => absurd h (Nat.not_lt_zero j)⟩
  case round =>
    clear hX0
    obtain ⟨k, hk, rfl, hX, hno⟩ := hrel
    rename World => w1
    rcases Nat.lt_or_eq_of_le hk with hkn | rfl
    · obtain ⟨b, o, x, y, z, rfl, -, hb, hc, r0, r1, r2⟩ := (hlV _ hX).cells hkn
      have hk0 : (0 : Int) ≤ k := by omega
      have hk1 : (k : Int) < part.length := by omega
      have wk := wrapS (n := (k : Int) + 1) (by omega)
      have hcn := hp _ (List.mem_of_getElem? hc)
      unfold Near at hcn hs
      dsimp only at hcn hs
      have hpl := fun W => insPlus_ok x y z sx sy sz W (by omega) (by omega) (by omega)
      have hXa := hX.alloc hX.size (.cells #[.int .i64 x, .int .i64 y, .int .i64 z] 26)
      obtain ⟨k0, k1, k2, k3⟩ := kk _ hXa
      obtain ⟨n, hnw⟩ : ∃ n, n = w1.heap.size := ⟨_, rfl⟩
      cases hd : decide ((x + sx, y + sy, z + sz) ∈ S) with
      | true =>
        have hhd := Lib.hid (hitL_head (base := S) hc (show shiftC (sx, sy, sz) (x, y, z) ∈ S from of_decide_eq_true hd) hno)
        clear hno hc
        go_wp2_with (first
          | (go_at_call 64; refine (hpl _).mono ?_; rintro e w2 ⟨rfl, hB2⟩; have hXb := hXa.trans (hB2.mono hXa.size); have hXc := hXb.alloc hXb.size (.cells #[.int .i64 (x + sx), .int .i64 (y + sy), .int .i64 (z + sz)] 26); have hSc := hSV _ hXc; obtain ⟨l0, l1, l2, l3⟩ := kk _ hXc; have hrow := hR _ hXc; obtain ⟨⟨s0, s1, s2⟩, g0, g1, g2⟩ := three_cells hrow)
          | (at_lookup; refine wpList_lookup_set rfl _ _ _ rfl Try.underlying54 m S rfl hSc (x + sx, y + sy, z + sz) rfl true hd ?_))
        have hF := three_stored (d0 := .int .i64 (x + sx)) (d1 := .int .i64 (y + sy)) (d2 := .int .i64 (z + sz)) hrow
        have hle : w.heap.size ≤ w.heap.size + 1 + 1 := by omega
        have hBF := (((hB0.trans (hXc.mono hB0.size)).setCell (p := ⟨w.heap.size + 1 + 1, 0, none⟩) hle (.int .i64 (x + sx))).setCell (p := ⟨w.heap.size + 1 + 1, 1, none⟩) hle (.int .i64 (y + sy))).setCell (p := ⟨w.heap.size + 1 + 1, 2, none⟩) hle (.int .i64 (z + sz))
        have yl := fun j => cell_of_row _ (w.heap.size + 1 + 1) j _ _ _ hF
        exact bodyPost_ret (v := .tuple #[.agg #[.int .i64 (x + sx), .int .i64 (y + sy), .int .i64 (z + sz)], .bool true]) (by simp [results, Try.results51, go_sem, yl]) rfl ⟨_, _, _, true, rfl, .inl ⟨rfl, hhd.out⟩, hBF⟩
      | false =>
        have hno' := Lib.hid (show ∀ j d, j < k + 1 → part[j]? = some d → shiftC (sx, sy, sz) d ∉ S from fun j d hj e => by
          rcases Nat.lt_or_eq_of_le (Nat.le_of_lt_succ hj) with h | rfl
          · exact hno j d h e
          · rw [hc] at e
            obtain rfl := Option.some.inj e
            exact of_decide_eq_false hd)
        clear hno hc
        go_wp2_with (first
          | (go_at_call 64; refine (hpl _).mono ?_; rintro e w2 ⟨rfl, hB2⟩; have hXb := hXa.trans (hB2.mono hXa.size); have hXc := hXb.alloc hXb.size (.cells #[.int .i64 (x + sx), .int .i64 (y + sy), .int .i64 (z + sz)] 26); have hSc := hSV _ hXc; obtain ⟨l0, l1, l2, l3⟩ := kk _ hXc; have hrow := hR _ hXc; obtain ⟨⟨s0, s1, s2⟩, g0, g1, g2⟩ := three_cells hrow)
          | (at_lookup; refine wpList_lookup_set rfl _ _ _ rfl Try.underlying54 m S rfl hSc (x + sx, y + sy, z + sz) rfl false hd ?_))
        exact ⟨⟨k + 1, hkn, rfl, hXc, hno'.out⟩, by simp [intOf]; omega⟩
    · have hnone : hitL part S (sx, sy, sz) = [] := hitL_nil.2 fun c hcm => by
        obtain ⟨j, hj⟩ := List.mem_iff_getElem?.1 hcm
        exact hno j c (List.getElem?_eq_some_iff.1 hj).1 hj
      have hN := Lib.hid hnone
      have hrow := hR _ hX
      obtain ⟨⟨s0, s1, s2⟩, g0, g1, g2⟩ := three_cells hrow
      clear hno hnone
      have hF := three_stored (d0 := .int .i64 (0)) (d1 := .int .i64 (0)) (d2 := .int .i64 (0)) hrow
      have hle : w.heap.size ≤ w.heap.size + 1 + 1 := by omega
      have hBF := (((hB0.trans (hX.mono hB0.size)).setCell (p := ⟨w.heap.size + 1 + 1, 0, none⟩) hle (.int .i64 (0))).setCell (p := ⟨w.heap.size + 1 + 1, 1, none⟩) hle (.int .i64 (0))).setCell (p := ⟨w.heap.size + 1 + 1, 2, none⟩) hle (.int .i64 (0))
      have yl := fun j => cell_of_row _ (w.heap.size + 1 + 1) j _ _ _ hF

      go_wp2
      exact bodyPost_ret (v := .tuple #[.agg #[.int .i64 0, .int .i64 0, .int .i64 0], .bool false]) (by simp [results, Try.results51, go_sem, yl]) rfl ⟨_, _, _, false, rfl, .inr ⟨rfl, rfl, hN.out⟩, hBF⟩
end Go.Proofs
