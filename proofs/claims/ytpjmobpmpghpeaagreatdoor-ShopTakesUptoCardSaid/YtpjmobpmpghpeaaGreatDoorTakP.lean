import Derived.Test.YtpjmobpmpghpeaaGreatDoorBatE
import Derived.Test.YtpjmobpmpghpeaaGreatDoorLayS
import Derived.Test.YtpjmobpmpghpeaaGreatDoorStab
import Derived.Test.YtpjmobpmpghpeaaGreatDoorCompare
import Derived.Test.YtpjmobpmpghpeaaGreatDoorHeldF
import Derived.Shelf.SlSortCmp.Insertion1
import Derived.Sort.LotA
section
/- Batches in the order of their days. -/
namespace Go.Proofs
open Go.Shelf Go.RowKit Go.Lib Go.Sort
set_option maxHeartbeats 16000000
set_option maxRecDepth 1000000
/-- All but one block as it was. -/
structure Kept1 (b : Nat) (W W' : World) : Prop where
  os : W'.os = W.os
  tape : W'.tape = W.tape
  output : W'.output = W.output
  size : W.heap.size ≤ W'.heap.size
  block : ∀ k : Nat, k < W.heap.size → k ≠ b → W'.heap[k]? = W.heap[k]?
theorem sortWorld_kept {α : Type} [Inhabited α] (enc : α → Value) (w : World) (blk off m : Nat) (dk : Array α) (os : Array Obj) : Kept1 blk w (sortWorld enc w blk off m dk os) := by
  refine ⟨rfl, rfl, rfl, by simp [sortWorld, grow, putRow, mapBlock, Sort.ahead], fun k hk hne => ?_⟩
  simp only [sortWorld, grow, putRow, mapBlock, Sort.ahead]
  rw [Array.getElem?_append_left (by simpa using hk), Array.getElem?_modify, if_neg (Ne.symm hne)]
/-- A row of numbers, known to the element. -/
def RowN (w : World) (g : Nat) (l : List Nat) : Prop := w.heap[g]? = some (.cells (l.map fun i : Nat => Value.int .i64 (i : Int)).toArray 3 (0, 0))
def encF (m : Nat) (x : Fin (m + 1)) : Value := .int .i64 (x.val : Int)
def idF (m : Nat) : Array (Fin (m + 1)) := Array.ofFn fun i => i
instance finInh (m : Nat) : Inhabited (Fin (m + 1)) := ⟨⟨0, Nat.succ_pos m⟩⟩
theorem idF_get (m i : Nat) (h : i < m + 1) : (idF m)[i]! = ⟨i, h⟩ := by
  rw [getElem!_pos (idF m) i (by simpa [idF] using h)]
  simp [idF]
theorem row_cell {w : World} {g : Nat} {l : List Nat} (h : RowN w g l) {i k : Nat} (hi : l[i]? = some k) : w.cell? ⟨g, i, none⟩ = some (.int .i64 (k : Int)) := by
  have := cell_of_row w g i _ _ _ h
  rw [this]
  simp [hi]
theorem idF_holds {w : World} {g m : Nat} (h : RowN w g (List.range (m + 1))) : Holds (encF m) w g 0 (idF m) := fun j hj => by
  have hj' : j < m + 1 := by simpa [idF] using hj
  refine ⟨?_, ?_⟩
  · rw [Nat.zero_add, row_cell h (k := j) (by simp [hj']), idF_get m j hj']
    rfl
  · rw [Nat.zero_add]
    exact frozen_of_row w g j _ _ h
theorem row_sorted {w : World} {g m : Nat} (h : RowN w g (List.range (m + 1))) (d : Array (Fin (m + 1))) (hd : d.size = m + 1) (n : Nat) (os : Array Obj) : RowN (sortWorld (encF m) w g 0 n d os) g (d.toList.map fun x => x.val) := by
  have hg : g < w.heap.size := (Array.getElem?_eq_some_iff.1 h).1
  unfold RowN
  simp only [sortWorld, grow, putRow, mapBlock, Sort.ahead]
  rw [Array.getElem?_append_left (by simpa using hg), Array.getElem?_modify, if_pos rfl]
  rw [show w.heap[g]? = _ from h]
  simp only [Option.map_some, onCells, Option.some.injEq, Obj.cells.injEq, and_true]
  apply Array.ext
  · simp [putCells, hd]
  · intro i h1 h2
    have hi : i < m + 1 := by simpa [putCells] using h1
    simp only [putCells, Array.getElem_mapIdx]
    rw [if_pos ⟨Nat.zero_le _, by omega⟩]
    simp [encF, getElem!_pos d i (by omega)]
def cfB (us : List Int) (m : Nat) (x y : Fin (m + 1)) : Int := cmpI (us.getD x.val 0) (us.getD y.val 0)
theorem ltB (us : List Int) (m : Nat) (x y : Fin (m + 1)) : ltOf (cfB us m) x y = decide (us.getD x.val 0 < us.getD y.val 0) := by
  unfold ltOf cfB cmpI
  generalize us.getD y.val 0 = a
  generalize us.getD x.val 0 = b
  by_cases h : b < a
  · simp [h]
  · by_cases h2 : a < b <;> simp [h, h2]
def ltB2 (us : List Int) (m : Nat) (x y : Fin (m + 1)) : Bool := decide (us.getD x.val 0 < us.getD y.val 0) || (decide (us.getD x.val 0 = us.getD y.val 0) && decide (x.val < y.val))
theorem ltB2_iff (us : List Int) (m : Nat) (x y : Fin (m + 1)) : ltB2 us m x y = true ↔ us.getD x.val 0 < us.getD y.val 0 ∨ (us.getD x.val 0 = us.getD y.val 0 ∧ x.val < y.val) := by unfold ltB2; simp
theorem ltB2_no (us : List Int) (m : Nat) (x y : Fin (m + 1)) : ltB2 us m x y = false ↔ ¬ (us.getD x.val 0 < us.getD y.val 0 ∨ (us.getD x.val 0 = us.getD y.val 0 ∧ x.val < y.val)) := by
  rw [← ltB2_iff]
  cases ltB2 us m x y <;> simp
theorem ext_allB {α : Type} (d : Array α) (n : Nat) (h : d.size = n) : d.extract 0 n = d := by
  subst h
  exact Array.extract_size ..
theorem swoB (us : List Int) (m : Nat) : SWO (ltB2 us m) := by
  refine ⟨fun x => ?_, fun x y z => ?_, fun x y z => ?_⟩
  · rw [ltB2_no]; omega
  · rw [ltB2_iff, ltB2_iff, ltB2_iff]; omega
  · rw [ltB2_no, ltB2_no, ltB2_no]; omega
theorem idF_listB (m : Nat) : (idF m).toList.map (fun x => x.val) = List.range (m + 1) := by
  refine List.ext_getElem (by simp [idF]) fun i h1 h2 => ?_
  rw [List.getElem_map, Array.getElem_toList, List.getElem_range]
  simp only [idF, Array.getElem_ofFn]
theorem taken1_ok (t : BatT) (w : World) : Calls Tryz.prog 106 #[batV t] w fun e w' => e = .returned (.int .i64 t.2.2.2) ∧ RowKit.Hid (w' = w.alloc (.cells (encB t).toArray 73)) ∧ Below w.heap.size w w' := by
  obtain ⟨nm, kd, gr, un⟩ := t
  unfold batV encB
  dsimp only
  have hB : Below w.heap.size w (w.alloc (.cells #[.string nm, .string kd, .int .i64 gr, .int .i64 un] 73)) := (Below.refl _ _).alloc (Nat.le_refl _) _
  go_enter Tryz.func106, Tryz.ntmps106
  go_wp2
  go_ret
  exact ⟨rfl, Lib.hid rfl, hB⟩
theorem cmpB_ok (Kb Lb b o cap : Nat) (l : List BatT) (i k : Nat) (ti tk : BatT) (w : World) (hK : w.cell? ⟨Kb, 0, none⟩ = some (.func (.func 106) #[] #[])) (hL : w.cell? ⟨Lb, 0, none⟩ = some (.slice (some ⟨b, o, none⟩) l.length cap)) (hlt : Kb < w.heap.size ∧ Lb < w.heap.size ∧ b < w.heap.size)
    (hi : l[i]? = some ti) (hk : l[k]? = some tk) (hci : w.cell? ⟨b, o + i * 4, none⟩ = some (.string ti.1) ∧ w.cell? ⟨b, o + i * 4 + 1, none⟩ = some (.string ti.2.1) ∧ w.cell? ⟨b, o + i * 4 + 2, none⟩ = some (.int .i64 ti.2.2.1) ∧ w.cell? ⟨b, o + i * 4 + 3, none⟩ = some (.int .i64 ti.2.2.2))
    (hck : w.cell? ⟨b, o + k * 4, none⟩ = some (.string tk.1) ∧ w.cell? ⟨b, o + k * 4 + 1, none⟩ = some (.string tk.2.1) ∧ w.cell? ⟨b, o + k * 4 + 2, none⟩ = some (.int .i64 tk.2.2.1) ∧ w.cell? ⟨b, o + k * 4 + 3, none⟩ = some (.int .i64 tk.2.2.2)) :
    Calls Tryz.prog 138 #[.int .i64 i, .int .i64 k, .pointer (some ⟨Kb, 0, none⟩), .pointer (some ⟨Lb, 0, none⟩)] w fun e w' => e = .returned (.int .i64 (cmpI ti.2.2.2 tk.2.2.2)) ∧ ∃ q os, w' = grow (w.drewN q) os := by
  have hc := fun W => cmp_ok ti.2.2.2 tk.2.2.2 W
  have kI := fun W => taken1_ok ti W
  have kK := fun W => taken1_ok tk W
  unfold batV at kI kK
  generalize cmpI ti.2.2.2 tk.2.2.2 = r at hc ⊢
  have hil := (List.getElem?_eq_some_iff.1 hi).1
  have hkl := (List.getElem?_eq_some_iff.1 hk).1
  obtain ⟨ni, di, gi, ui⟩ := ti
  obtain ⟨nk, dk, gk, uk⟩ := tk
  dsimp only at *
  have i0 : (0 : Int) ≤ i := by omega
  have i1 : (i : Int) < l.length := by omega
  have k0 : (0 : Int) ≤ k := by omega
  have k1 : (k : Int) < l.length := by omega
  have kk : ∀ V, Below w.heap.size w V → V.cell? ⟨Kb, 0, none⟩ = some (.func (.func 106) #[] #[]) ∧ V.cell? ⟨Lb, 0, none⟩ = some (.slice (some ⟨b, o, none⟩) l.length cap) ∧ (V.cell? ⟨b, o + i * 4, none⟩ = some (.string ni) ∧ V.cell? ⟨b, o + i * 4 + 1, none⟩ = some (.string di) ∧ V.cell? ⟨b, o + i * 4 + 2, none⟩ = some (.int .i64 gi) ∧ V.cell? ⟨b, o + i * 4 + 3, none⟩ = some (.int .i64 ui)) ∧ V.cell? ⟨b, o + k * 4, none⟩ = some (.string nk) ∧ V.cell? ⟨b, o + k * 4 + 1, none⟩ = some (.string dk) ∧ V.cell? ⟨b, o + k * 4 + 2, none⟩ = some (.int .i64 gk) ∧ V.cell? ⟨b, o + k * 4 + 3, none⟩ = some (.int .i64 uk) := fun V h =>
    have g := fun (q : Nat) => h.cell (p := ⟨b, q, none⟩) hlt.2.2
    ⟨(h.cell (p := ⟨Kb, 0, none⟩) hlt.1).trans hK, (h.cell (p := ⟨Lb, 0, none⟩) hlt.2.1).trans hL, ⟨(g _).trans hci.1, (g _).trans hci.2.1, (g _).trans hci.2.2.1, (g _).trans hci.2.2.2⟩, (g _).trans hck.1, (g _).trans hck.2.1, (g _).trans hck.2.2.1, (g _).trans hck.2.2.2⟩
  have hX := (Below.refl w.heap.size w).drew
  clear hK hL hci hck hi hk hil hkl hlt
  go_enter Tryz.func138, Tryz.ntmps138
  go_wp2_with fail
  refine wp_region_held_drew (S := fun V => V.cell? ⟨Kb, 0, none⟩ = some (.func (.func 106) #[] #[]) ∧ V.cell? ⟨Lb, 0, none⟩ = some (.slice (some ⟨b, o, none⟩) l.length cap) ∧ (V.cell? ⟨b, o + i * 4, none⟩ = some (.string ni) ∧ V.cell? ⟨b, o + i * 4 + 1, none⟩ = some (.string di) ∧ V.cell? ⟨b, o + i * 4 + 2, none⟩ = some (.int .i64 gi) ∧ V.cell? ⟨b, o + i * 4 + 3, none⟩ = some (.int .i64 ui)) ∧ V.cell? ⟨b, o + k * 4, none⟩ = some (.string nk) ∧ V.cell? ⟨b, o + k * 4 + 1, none⟩ = some (.string dk) ∧ V.cell? ⟨b, o + k * 4 + 2, none⟩ = some (.int .i64 gk) ∧ V.cell? ⟨b, o + k * 4 + 3, none⟩ = some (.int .i64 uk)) (by kernel_rfl) (kk _ hX) (fun hHeld => ?_)
  refine held_yes 0 (some 7) (.func (.func 106) #[] #[]) rfl rfl (by kernel_rfl) (by kernel_rfl) (by kernel_rfl) (fun _ _ _ h => h) rfl (fun w' hS => by obtain ⟨s0, s1, ⟨s2, s3, s4, s5⟩, s6, s7, s8, s9⟩ := hS; go_simp) hHeld ?_
  try simp only [Act.put, List.setIfInBounds_toArray, List.set_cons_zero, List.set_cons_succ]
  refine held_yes 1 (some 8) (.slice (some ⟨b, o, none⟩) l.length cap) rfl rfl (by kernel_rfl) (by kernel_rfl) (by kernel_rfl) (fun _ _ _ h => h) rfl (fun w' hS => by obtain ⟨s0, s1, ⟨s2, s3, s4, s5⟩, s6, s7, s8, s9⟩ := hS; go_simp) hHeld ?_
  try simp only [Act.put, List.setIfInBounds_toArray, List.set_cons_zero, List.set_cons_succ]
  refine held_yes 2 (some 9) (.int .i64 i) rfl rfl (by kernel_rfl) (by kernel_rfl) (by kernel_rfl) (fun _ _ _ h => h) rfl (fun w' hS => by obtain ⟨s0, s1, ⟨s2, s3, s4, s5⟩, s6, s7, s8, s9⟩ := hS; go_simp) hHeld ?_
  try simp only [Act.put, List.setIfInBounds_toArray, List.set_cons_zero, List.set_cons_succ]
  refine held_yes 3 (some 10) (.pointer (some ⟨b, o + i * 4, none⟩)) rfl rfl (by kernel_rfl) (by kernel_rfl) (by kernel_rfl) (fun _ _ _ h => h) rfl (fun w' hS => by obtain ⟨s0, s1, ⟨s2, s3, s4, s5⟩, s6, s7, s8, s9⟩ := hS; go_simp) hHeld ?_
  try simp only [Act.put, List.setIfInBounds_toArray, List.set_cons_zero, List.set_cons_succ]
  refine held_yes 4 (some 11) (.agg #[.string ni, .string di, .int .i64 gi, .int .i64 ui]) rfl rfl (by kernel_rfl) (by kernel_rfl) (by kernel_rfl) (fun _ _ _ h => h) rfl (fun w' hS => by obtain ⟨s0, s1, ⟨s2, s3, s4, s5⟩, s6, s7, s8, s9⟩ := hS; go_simp) hHeld ?_
  try simp only [Act.put, List.setIfInBounds_toArray, List.set_cons_zero, List.set_cons_succ]
  refine held_yes 6 (some 13) (.func (.func 106) #[] #[]) rfl rfl (by kernel_rfl) (by kernel_rfl) (by kernel_rfl) (fun _ _ _ h => h) rfl (fun w' hS => by obtain ⟨s0, s1, ⟨s2, s3, s4, s5⟩, s6, s7, s8, s9⟩ := hS; go_simp) hHeld ?_
  try simp only [Act.put, List.setIfInBounds_toArray, List.set_cons_zero, List.set_cons_succ]
  refine held_yes 7 (some 14) (.slice (some ⟨b, o, none⟩) l.length cap) rfl rfl (by kernel_rfl) (by kernel_rfl) (by kernel_rfl) (fun _ _ _ h => h) rfl (fun w' hS => by obtain ⟨s0, s1, ⟨s2, s3, s4, s5⟩, s6, s7, s8, s9⟩ := hS; go_simp) hHeld ?_
  try simp only [Act.put, List.setIfInBounds_toArray, List.set_cons_zero, List.set_cons_succ]
  refine held_yes 8 (some 15) (.int .i64 k) rfl rfl (by kernel_rfl) (by kernel_rfl) (by kernel_rfl) (fun _ _ _ h => h) rfl (fun w' hS => by obtain ⟨s0, s1, ⟨s2, s3, s4, s5⟩, s6, s7, s8, s9⟩ := hS; go_simp) hHeld ?_
  try simp only [Act.put, List.setIfInBounds_toArray, List.set_cons_zero, List.set_cons_succ]
  refine held_yes 9 (some 16) (.pointer (some ⟨b, o + k * 4, none⟩)) rfl rfl (by kernel_rfl) (by kernel_rfl) (by kernel_rfl) (fun _ _ _ h => h) rfl (fun w' hS => by obtain ⟨s0, s1, ⟨s2, s3, s4, s5⟩, s6, s7, s8, s9⟩ := hS; go_simp) hHeld ?_
  try simp only [Act.put, List.setIfInBounds_toArray, List.set_cons_zero, List.set_cons_succ]
  refine held_yes 10 (some 17) (.agg #[.string nk, .string dk, .int .i64 gk, .int .i64 uk]) rfl rfl (by kernel_rfl) (by kernel_rfl) (by kernel_rfl) (fun _ _ _ h => h) rfl (fun w' hS => by obtain ⟨s0, s1, ⟨s2, s3, s4, s5⟩, s6, s7, s8, s9⟩ := hS; go_simp) hHeld ?_
  try simp only [Act.put, List.setIfInBounds_toArray, List.set_cons_zero, List.set_cons_succ]
  refine wpAnyH_ready (rs := [5]) (by kernel_rfl) (by simp) ?_
  refine AllReadyH.cons rfl (fun K hK => ?_) AllReadyH.nil
  go_simp
  refine (kI _).mono ?_
  rintro e v1 ⟨rfl, H1, hB⟩
  replace hX := hX.trans (hB.mono hX.size)
  go_wp2_with fail
  refine hK.out _ _ (kk _ hX) (fun hHeld => ?_)
  clear hK K hB
  try simp only [Act.put, List.setIfInBounds_toArray, List.set_cons_zero, List.set_cons_succ]
  refine wpAnyH_ready (rs := [11]) (by kernel_rfl) (by simp) ?_
  refine AllReadyH.cons rfl (fun K hK => ?_) AllReadyH.nil
  go_simp
  refine (kK _).mono ?_
  rintro e v2 ⟨rfl, H2, hB⟩
  replace hX := hX.trans (hB.mono hX.size)
  go_wp2_with fail
  refine hK.out _ _ (kk _ hX) (fun hHeld => ?_)
  clear hK K hB
  try simp only [Act.put, List.setIfInBounds_toArray, List.set_cons_zero, List.set_cons_succ]
  refine wpAnyH_ready (rs := [12]) (by kernel_rfl) (by simp) ?_
  refine AllReadyH.cons rfl (fun K hK => ?_) AllReadyH.nil
  go_simp
  refine (hc _).mono ?_
  rintro e v3 ⟨rfl, rfl⟩
  go_wp2_with fail
  refine hK.out _ _ (kk _ hX) (fun hHeld => ?_)
  clear hK K
  try simp only [Act.put, List.setIfInBounds_toArray, List.set_cons_zero, List.set_cons_succ]
  refine held_yes 13 (some 6) (.int .i64 r) rfl rfl (by kernel_rfl) (by kernel_rfl) (by kernel_rfl) (fun _ _ _ h => h) rfl (fun w' hS => by obtain ⟨s0, s1, ⟨s2, s3, s4, s5⟩, s6, s7, s8, s9⟩ := hS; go_simp) hHeld ?_
  try simp only [Act.put, List.setIfInBounds_toArray, List.set_cons_zero, List.set_cons_succ]
  refine wpAnyH_done (by kernel_rfl) ?_ _
  clear hHeld kk kI kK hc hX
  go_wp2
  go_ret
  exact ⟨rfl, 1, #[.cells (encB (ni, di, gi, ui)).toArray 73, .cells (encB (nk, dk, gk, uk)).toArray 73], by rw [H2.out, H1.out]; simp [grow, World.alloc, World.drewN]; rfl⟩
end Go.Proofs
end

section
/- Batches in the order of their days: the order of a list by its days, of equal ones in the order of the list. -/
namespace Go.Proofs
open Go.Shelf Go.RowKit Go.Lib Go.Sort
set_option maxHeartbeats 16000000
set_option maxRecDepth 1000000
theorem sortStableB {n : Nat} (hn : n ≤ 12) (Og : Nat) (cmpF : Value) (Q : World → Prop) (w : World)
    (hins : Calls Tryz.prog 185 #[.slice (some ⟨Og, 0, none⟩) n n, .int .i64 0, .int .i64 n, cmpF] w fun e w' => e = .returned (.tuple #[]) ∧ Q w') :
    Calls Tryz.prog 137 #[.slice (some ⟨Og, 0, none⟩) n n, cmpF] w fun e w' => e = .returned (.tuple #[]) ∧ Q w' := by
  have nz : ¬ (20 : Int) ≤ n := by omega
  have nz2 : ¬ (20 : Int) < n := by omega
  have hst : Calls Tryz.prog 161 #[.slice (some ⟨Og, 0, none⟩) n n, .int .i64 n, cmpF] w fun e w' => e = .returned (.tuple #[]) ∧ Q w' := by
    clear hn
    go_enter Tryz.func161, Tryz.ntmps161
    go_wp2
    refine wp_loop_rounds 1 ?_
    rw [rounds_succ]
    go_wp2_with (go_at_call 185; refine hins.mono ?_; rintro e w2 ⟨rfl, hQ⟩)
    refine wp_loop_rounds 1 ?_
    rw [rounds_succ]
    go_wp2
    go_end0
    exact ⟨rfl, hQ⟩
  clear hins nz nz2 hn
  go_enter Tryz.func137, Tryz.ntmps137
  go_wp2_with (go_at_call 161; refine hst.mono ?_; rintro e w2 ⟨rfl, hQ⟩)
  go_end0
  exact ⟨rfl, hQ⟩
theorem insEmpty (Og : Nat) (cmpF : Value) (w : World) : Calls Tryz.prog 185 #[.slice (some ⟨Og, 0, none⟩) 0 0, .int .i64 0, .int .i64 (0 : Nat), cmpF] w fun e w' => e = .returned (.tuple #[]) ∧ w' = w := by
  go_enter Tryz.func185, Tryz.ntmps185
  go_wp2
  refine wp_loop_rounds 1 ?_
  rw [rounds_succ]
  go_wp2
  go_end0
  exact ⟨rfl, rfl⟩
/-- An order of the places by the days, of equal days in the order of the list. -/
def OrderS (us : List Int) (p : List Nat) : Prop := p.Perm (List.range us.length) ∧ ∀ (a b i k : Nat), a < b → p[a]? = some i → p[b]? = some k → us.getD i 0 < us.getD k 0 ∨ (us.getD i 0 = us.getD k 0 ∧ i < k)
theorem idF_size (m : Nat) : (idF m).size = m + 1 := by simp [idF]
theorem stableS_ok (l : List BatT) (Og Kb Lb b o cap : Nat) (w : World) (hn0 : 0 < l.length) (hn : l.length ≤ 12) (hO : RowN w Og (List.range l.length)) (hK : w.cell? ⟨Kb, 0, none⟩ = some (.func (.func 106) #[] #[])) (hL : w.cell? ⟨Lb, 0, none⟩ = some (.slice (some ⟨b, o, none⟩) l.length cap)) (hF : SlF encB w (.slice (some ⟨b, o, none⟩) l.length cap) l)
    (n1 : Kb ≠ Og) (n2 : Lb ≠ Og) (n3 : b ≠ Og) (l1 : Kb < w.heap.size) (l2 : Lb < w.heap.size) :
    Calls Tryz.prog 137 #[.slice (some ⟨Og, 0, none⟩) l.length l.length, .func (.func 138) #[] #[.pointer (some ⟨Kb, 0, none⟩), .pointer (some ⟨Lb, 0, none⟩)]] w fun e w' => ∃ p, e = .returned (.tuple #[]) ∧ OrderS (l.map (·.2.2.2)) p ∧ RowN w' Og p ∧ Kept1 Og w w' := by
  obtain ⟨m, hm⟩ : ∃ m, l.length = m + 1 := ⟨l.length - 1, by omega⟩
  obtain ⟨us, hus⟩ : ∃ us, us = l.map (·.2.2.2) := ⟨_, rfl⟩
  rw [← hus]
  have hul : us.length = m + 1 := by rw [hus, List.length_map, hm]
  have hug : ∀ (i : Nat) (t : BatT), l[i]? = some t → us.getD i 0 = t.2.2.2 := fun i t h => by
    rw [hus, List.getD_eq_getElem?_getD, List.getElem?_map, h]
    rfl
  have eg : ∀ args w, (callFunc 138 args).run Tryz.prog w = .ok (.enter 138 args) w := enters_of Tryz.func138 (by kernel_rfl) rfl
  have hbw : b < w.heap.size := by
    obtain ⟨b', o', e, -, h3, -⟩ := bat_cells hF (List.getElem?_eq_getElem hn0)
    injection e with e
    injection e with e1 e2
    rw [e1]; exact h3
  have hcmp : CmpLays1 Tryz.prog 138 #[.pointer (some ⟨Kb, 0, none⟩), .pointer (some ⟨Lb, 0, none⟩)] (encF m) (cfB us m) Og 0 (idF m).size w := fun q os dk _ x y => by
    have hk := sortWorld_kept (encF m) w Og 0 q dk os
    have hcel : ∀ z : Fin (m + 1), ∃ t, l[z.val]? = some t ∧ us.getD z.val 0 = t.2.2.2 ∧ ((sortWorld (encF m) w Og 0 q dk os).cell? ⟨b, o + z.val * 4, none⟩ = some (.string t.1) ∧ (sortWorld (encF m) w Og 0 q dk os).cell? ⟨b, o + z.val * 4 + 1, none⟩ = some (.string t.2.1) ∧ (sortWorld (encF m) w Og 0 q dk os).cell? ⟨b, o + z.val * 4 + 2, none⟩ = some (.int .i64 t.2.2.1) ∧ (sortWorld (encF m) w Og 0 q dk os).cell? ⟨b, o + z.val * 4 + 3, none⟩ = some (.int .i64 t.2.2.2)) := fun z => by
      have hz : z.val < l.length := by have := z.isLt; omega
      obtain ⟨t, ht⟩ : ∃ t, l[z.val]? = some t := ⟨_, List.getElem?_eq_getElem hz⟩
      obtain ⟨b', o', e, -, h3, c0, c1, c2, c3⟩ := bat_cells hF ht
      injection e with e
      injection e with e1 e2
      subst e1 e2
      have hg := fun (j : Nat) => World.cell?_of_block (w := w) (w' := sortWorld (encF m) w Og 0 q dk os) (a := ⟨b, j, none⟩) (hk.block b hbw n3)
      exact ⟨t, ht, hug _ _ ht, (hg _).trans c0, (hg _).trans c1, (hg _).trans c2, (hg _).trans c3⟩
    obtain ⟨tx, hx, hx2, hxc⟩ := hcel x
    obtain ⟨ty, hy, hy2, hyc⟩ := hcel y
    have hz := hk.size
    have := cmpB_ok Kb Lb b o cap l x.val y.val tx ty (sortWorld (encF m) w Og 0 q dk os) (by rw [World.cell?_of_block (a := ⟨Kb, 0, none⟩) (hk.block Kb l1 n1)]; exact hK) (by rw [World.cell?_of_block (a := ⟨Lb, 0, none⟩) (hk.block Lb l2 n2)]; exact hL) ⟨by omega, by omega, by omega⟩ hx hy hxc hyc
    unfold cfB
    rw [hx2, hy2]
    exact this
  have hsz : (idF m).size = m + 1 := idF_size m
  rw [hm] at hO hn ⊢
  have hH := idF_holds hO
  have hOg : Og < w.heap.size := (Array.getElem?_eq_some_iff.1 hO).1
  have hins := Any.insertionSortCmpFunc_s Tryz.insF (encF m) (cfB us m) 138 #[.pointer (some ⟨Kb, 0, none⟩), .pointer (some ⟨Lb, 0, none⟩)] Og 0 (m + 1) 0 (m + 1) (idF m) (idF m) w w eg hcmp ⟨fun _ => rfl, hH, hOg⟩ rfl (SW.start hH) (Nat.zero_le _) (by omega) (by omega)
  rw [hsz] at hins
  have heq : insertionSort (ltOf (cfB us m)) (idF m) 0 (m + 1) = insertionSort (ltB2 us m) (idF m) 0 (m + 1) := by
    have := sort_eq (val := fun x : Fin (m + 1) => x.val) (lt := ltOf (cfB us m)) (lt' := ltB2 us m) (fun x y h => by
      rw [ltB]
      unfold ltB2
      rw [show decide (x.val < y.val) = false from decide_eq_false (by omega)]
      simp) (idF m) (fun p hp => by rw [idF_get m p (by rw [hsz] at hp; exact hp)])
    rwa [hsz] at this
  rw [heq] at hins
  obtain ⟨hperm, hsort⟩ := insertionSort_holds (swoB us m) (idF m) 0 (m + 1) (Nat.zero_le _) (by omega)
  generalize hd' : insertionSort (ltB2 us m) (idF m) 0 (m + 1) = d' at hins hperm hsort
  have hds : d'.size = m + 1 := hperm.1.trans hsz
  have hp : (d'.toList.map fun x => x.val).Perm (List.range (m + 1)) := by
    have h := hperm.2.2
    rw [ext_allB d' _ hds, ext_allB (idF m) _ hsz] at h
    have h3 := h.map fun x => x.val
    rwa [idF_listB] at h3
  have hnd : (d'.toList.map fun x => x.val).Nodup := hp.nodup_iff.2 List.nodup_range
  have hord : OrderS us (d'.toList.map fun x => x.val) := by
    refine ⟨by rw [hul]; exact hp, fun a b i k hab ha hb => ?_⟩
    have hne : i ≠ k := fun e => by
      subst e
      have h1 := (List.getElem?_eq_some_iff.1 ha)
      have h2 := (List.getElem?_eq_some_iff.1 hb)
      obtain ⟨h1a, h1b⟩ := h1
      obtain ⟨h2a, h2b⟩ := h2
      have := (List.getElem_inj (h₀ := h1a) (h₁ := h2a) hnd).1 (h1b.trans h2b.symm)
      omega
    rw [List.getElem?_map] at ha hb
    have hbl : b < m + 1 := by
      refine Classical.byContradiction fun h => ?_
      rw [List.getElem?_eq_none (by simp; omega)] at hb
      cases hb
    have hs := hsort a b (Nat.zero_le _) hab hbl
    rw [ltB2_no] at hs
    have ea : d'.toList[a]? = some d'[a]! := by rw [Array.getElem?_toList, Array.getElem?_eq_getElem (by omega), getElem!_pos d' a (by omega)]
    have eb : d'.toList[b]? = some d'[b]! := by rw [Array.getElem?_toList, Array.getElem?_eq_getElem (by omega), getElem!_pos d' b (by omega)]
    rw [ea] at ha
    rw [eb] at hb
    simp only [Option.map_some, Option.some.injEq] at ha hb
    subst ha
    subst hb
    omega
  have hst := sortStableB (n := m + 1) (by omega) Og (.func (.func 138) #[] #[.pointer (some ⟨Kb, 0, none⟩), .pointer (some ⟨Lb, 0, none⟩)]) (fun w' => SW (encF m) w Og 0 d' w') w hins
  refine hst.mono ?_
  rintro e w' ⟨rfl, q, os, rfl⟩
  exact ⟨_, rfl, hord, row_sorted hO d' hds q os, sortWorld_kept _ _ _ _ _ _ _⟩
theorem orderS_nil : OrderS [] [] := ⟨List.Perm.refl _, fun a b i k _ h => by simp at h⟩
end Go.Proofs
end

section
/- What is taken of batches, one after another; no world. -/
namespace Go.Proofs
open Go.RowKit
set_option maxHeartbeats 4000000
set_option maxRecDepth 1000000
abbrev TakT := Nat × Int
def gramsOf (l : List BatT) (i : Nat) : Int := (l[i]?.map (·.2.2.1)).getD 0
def untilOf (l : List BatT) (i : Nat) : Int := (l[i]?.map (·.2.2.2)).getD 0
/-- A batch of a kind that may be used on a day. -/
def forB (t : BatT) (kind : ByteArray) (day : Int) : Bool := (t.2.1.toList == kind.toList) && decide (day ≤ t.2.2.2)
def avail (l : List BatT) (kind : ByteArray) (day : Int) (i : Nat) : Bool := match l[i]? with | some t => forB t kind day | none => false
def partT (l : List BatT) (g : Int) (i : Nat) : Int := min (gramsOf l i) g
def stepT (l : List BatT) (kind : ByteArray) (day : Int) (st : List TakT × Int) (i : Nat) : List TakT × Int :=
  if 0 < partT l st.2 i ∧ avail l kind day i = true then (st.1 ++ [(i, partT l st.2 i)], st.2 - partT l st.2 i) else st
def runT (l : List BatT) (kind : ByteArray) (day : Int) (p : List Nat) (g : Int) : List TakT × Int := p.foldl (stepT l kind day) ([], g)
theorem runT_succ (l : List BatT) (kind : ByteArray) (day : Int) (p : List Nat) (g : Int) (k i : Nat) (h : p[k]? = some i) : runT l kind day (p.take (k + 1)) g = stepT l kind day (runT l kind day (p.take k) g) i := by
  unfold runT
  rw [List.take_add_one, h]
  simp
def sum2 (T : List TakT) : Int := (T.map (·.2)).sum
def availSum (l : List BatT) (kind : ByteArray) (day : Int) (p : List Nat) : Int := (p.map fun i => if avail l kind day i then gramsOf l i else 0).sum
structure TInv (l : List BatT) (kind : ByteArray) (day g0 : Int) (done : List Nat) (st : List TakT × Int) : Prop where
  tot : sum2 st.1 + st.2 = g0
  nn : 0 ≤ st.2
  at_ : ∀ x ∈ st.1, x.1 ∈ done ∧ avail l kind day x.1 = true ∧ 1 ≤ x.2 ∧ x.2 ≤ gramsOf l x.1
  nd : (st.1.map (·.1)).Nodup
  inc : st.1.Pairwise fun x y => untilOf l x.1 ≤ untilOf l y.1
  whole : 0 < st.2 → ∀ x ∈ st.1, x.2 = gramsOf l x.1
  most : ∀ (k : Nat) (x : TakT), k + 1 < st.1.length → st.1[k]? = some x → x.2 = gramsOf l x.1
  left : ∀ i ∈ done, avail l kind day i = true → 0 < gramsOf l i → i ∉ st.1.map (·.1) → st.2 = 0 ∧ ∀ x ∈ st.1, untilOf l x.1 ≤ untilOf l i
  sum : st.2 = max (g0 - availSum l kind day done) 0
theorem TInv.start {l : List BatT} {kind : ByteArray} {day g0 : Int} (h : 0 ≤ g0) : TInv l kind day g0 [] ([], g0) :=
  ⟨by simp [sum2], h, fun x hx => by simp at hx, List.nodup_nil, List.Pairwise.nil, fun _ x hx => by simp at hx, fun k x hk => by simp at hk, fun i hi => by simp at hi, by simp [availSum]; omega⟩
theorem availSum_snoc (l : List BatT) (kind : ByteArray) (day : Int) (p : List Nat) (i : Nat) : availSum l kind day (p ++ [i]) = availSum l kind day p + if avail l kind day i then gramsOf l i else 0 := by simp [availSum]
theorem TInv.step {l : List BatT} {kind : ByteArray} {day g0 : Int} {done : List Nat} {st : List TakT × Int} {i : Nat} (h : TInv l kind day g0 done st) (hg : 0 ≤ gramsOf l i) (hi : i ∉ done) (hu : ∀ j ∈ done, untilOf l j ≤ untilOf l i) : TInv l kind day g0 (done ++ [i]) (stepT l kind day st i) := by
  unfold stepT
  split
  · rename_i hc
    obtain ⟨hc1, hc2⟩ := hc
    have hp : partT l st.2 i = min (gramsOf l i) st.2 := rfl
    have hnew : i ∉ st.1.map (·.1) := fun hm => by
      obtain ⟨x, hx, rfl⟩ := List.mem_map.1 hm
      exact hi (h.at_ x hx).1
    have hpos : 0 < st.2 := by omega
    refine ⟨?_, ?_, ?_, ?_, ?_, ?_, ?_, ?_, ?_⟩
    · have := h.tot
      simp only [sum2, List.map_append, List.sum_append, List.map_cons, List.map_nil, List.sum_cons, List.sum_nil] at *
      omega
    · dsimp only; omega
    · intro x hx
      rcases List.mem_append.1 hx with h1 | h1
      · obtain ⟨a1, a2, a3, a4⟩ := h.at_ x h1
        exact ⟨List.mem_append_left _ a1, a2, a3, a4⟩
      · obtain rfl := List.mem_singleton.1 h1
        exact ⟨List.mem_append_right _ (List.mem_singleton.2 rfl), hc2, by dsimp only; omega, by dsimp only; omega⟩
    · simp only [List.map_append, List.map_cons, List.map_nil]
      exact List.nodup_append.2 ⟨h.nd, by simp, fun a ha b hb e => by
        obtain rfl := List.mem_singleton.1 hb
        exact hnew (e ▸ ha)⟩
    · refine List.pairwise_append.2 ⟨h.inc, List.pairwise_singleton _ _, fun x hx y hy => ?_⟩
      obtain rfl := List.mem_singleton.1 hy
      exact hu _ (h.at_ x hx).1
    · intro hl x hx
      dsimp only at hl
      rcases List.mem_append.1 hx with h1 | h1
      · exact h.whole hpos x h1
      · obtain rfl := List.mem_singleton.1 h1
        dsimp only
        omega
    · intro k x hk hx
      simp only [List.length_append, List.length_cons, List.length_nil] at hk
      rw [List.getElem?_append_left (by omega)] at hx
      exact h.whole hpos x (List.mem_of_getElem? hx)
    · intro j hj ha hgj hn
      simp only [List.map_append, List.map_cons, List.map_nil, List.mem_append, List.mem_singleton, not_or] at hn
      rcases List.mem_append.1 hj with h1 | h1
      · have := (h.left j h1 ha hgj hn.1).1
        omega
      · exact absurd (List.mem_singleton.1 h1) hn.2
    · rw [availSum_snoc, if_pos hc2]
      have := h.sum
      dsimp only
      omega
  · rename_i hc
    refine ⟨h.tot, h.nn, fun x hx => ⟨List.mem_append_left _ (h.at_ x hx).1, (h.at_ x hx).2⟩, h.nd, h.inc, h.whole, h.most, ?_, ?_⟩
    · intro j hj ha hgj hn
      rcases List.mem_append.1 hj with h1 | h1
      · exact h.left j h1 ha hgj hn
      · obtain rfl := List.mem_singleton.1 h1
        have hp : partT l st.2 j = min (gramsOf l j) st.2 := rfl
        have := h.nn
        refine ⟨?_, fun x hx => hu _ (h.at_ x hx).1⟩
        apply Classical.byContradiction
        intro h0
        exact hc ⟨by omega, ha⟩
    · rw [availSum_snoc]
      have h1 := h.sum
      have h2 := h.nn
      have hp : partT l st.2 i = min (gramsOf l i) st.2 := rfl
      by_cases ha : avail l kind day i = true
      · rw [if_pos ha]
        have : ¬ 0 < partT l st.2 i := fun h3 => hc ⟨h3, ha⟩
        omega
      · rw [if_neg ha]
        omega
theorem untilOf_eq (l : List BatT) (i : Nat) : (l.map (·.2.2.2)).getD i 0 = untilOf l i := by
  unfold untilOf
  rw [List.getD_eq_getElem?_getD, List.getElem?_map]
theorem TInv.all {l : List BatT} {kind : ByteArray} {day g0 : Int} {p : List Nat} (hg0 : 0 ≤ g0) (hp : OrderS (l.map (·.2.2.2)) p) (hg : ∀ i, 0 ≤ gramsOf l i) : ∀ k, k ≤ p.length → TInv l kind day g0 (p.take k) (runT l kind day (p.take k) g0)
  | 0, _ => by
    rw [List.take_zero]
    exact TInv.start hg0
  | k + 1, hk => by
    have ih := TInv.all (kind := kind) (day := day) hg0 hp hg k (by omega)
    obtain ⟨i, hi⟩ : ∃ i, p[k]? = some i := ⟨_, List.getElem?_eq_getElem (by omega)⟩
    rw [runT_succ l kind day p g0 k i hi, List.take_add_one, hi]
    have hnd : p.Nodup := hp.1.nodup_iff.2 List.nodup_range
    have hord : ∀ j ∈ p.take k, untilOf l j ≤ untilOf l i ∧ j ≠ i := fun j hj => by
      obtain ⟨a, ha⟩ := List.mem_iff_getElem?.1 hj
      rw [List.getElem?_take] at ha
      split at ha
      · rename_i hak
        have := hp.2 a k j i hak ha hi
        rw [untilOf_eq, untilOf_eq] at this
        refine ⟨by omega, fun e => ?_⟩
        subst e
        omega
      · cases ha
    exact ih.step (hg i) (fun hm => (hord i hm).2 rfl) (fun j hj => (hord j hj).1)
theorem sum_perm {f : Nat → Int} {p q : List Nat} (h : p.Perm q) : (p.map f).sum = (q.map f).sum := by
  induction h with
  | nil => rfl
  | cons x _ ih => simp [ih]
  | swap x y l => simp; omega
  | trans _ _ h1 h2 => exact h1.trans h2
theorem availSum_perm {l : List BatT} {kind : ByteArray} {day : Int} {p q : List Nat} (h : p.Perm q) : availSum l kind day p = availSum l kind day q := sum_perm h
end Go.Proofs
end
