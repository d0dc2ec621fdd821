/- GridDeals: the rests sorted, the greatest first. -/
import Derived.Test.YtmmedmjjbdopjaaGreatDoorDeA
import Derived.Test.YtmmedmjjbdopjaaGreatDoorLayD
import Derived.Shelf.SlSortCmp.Insertion1
import Derived.Sort.LotA
import Derived.Deep.QuietTactic
import Derived.BigQuiet
namespace Go.Proofs
open Go.Shelf Go.RowKit Go.Lib Go.Sort
set_option maxHeartbeats 8000000
set_option maxRecDepth 1000000
theorem isNaN64_ok (x : Int) (w : World) : Calls Tryz.prog 82 #[.int .i64 x] w fun e w' => e = .returned (.bool false) ∧ w' = w := by
  go_enter Tryz.func82, Tryz.ntmps82
  go_wp2
  go_ret
  exact ⟨rfl, rfl⟩
theorem cmp64_ok (x y : Int) (w : World) : Calls Tryz.prog 38 #[.int .i64 x, .int .i64 y] w fun e w' => e = .returned (.int .i64 (cmpI x y)) ∧ w' = w := by
  unfold cmpI
  go_enter Tryz.func38, Tryz.ntmps38
  go_wp2_with (go_at_call 82; refine (isNaN64_ok _ _).mono ?_; rintro e w' ⟨rfl, rfl⟩)
  all_goals go_ret
  all_goals exact ⟨rfl, rfl⟩
theorem cmpSh_ok (Rb Rg n i k : Nat) (xi xk : Int) (w : World) (hRb : w.cell? ⟨Rb, 0, none⟩ = some (.slice (some ⟨Rg, 0, none⟩) n n)) (hi : w.cell? ⟨Rg, i, none⟩ = some (.int .i64 xi)) (hk : w.cell? ⟨Rg, k, none⟩ = some (.int .i64 xk)) (hin : i < n) (hkn : k < n) :
    Calls Tryz.prog 37 #[.int .i64 i, .int .i64 k, .pointer (some ⟨Rb, 0, none⟩)] w fun e w' => e = .returned (.int .i64 (cmpI xk xi)) ∧ ∃ q, w' = w.drewN q := by
  have hc := fun W => cmp64_ok xk xi W
  generalize cmpI xk xi = r at hc ⊢
  have i0 : (0 : Int) ≤ i := by omega
  have i1 : (i : Int) < n := by omega
  have k0 : (0 : Int) ≤ k := by omega
  have k1 : (k : Int) < n := by omega
  clear hin hkn
  go_enter Tryz.func37, Tryz.ntmps37
  go_wp2
  go_quiet (exact Calls.quiet_of_same (hc _))
  go_wp2
  go_ret
  exact ⟨rfl, _, rfl⟩
/-- All but one block as it was. -/
structure Kept1 (b : Nat) (W W' : World) : Prop where
  os : W'.os = W.os
  tape : W'.tape = W.tape
  output : W'.output = W.output
  size : W.heap.size ≤ W'.heap.size
  block : ∀ k : Nat, k < W.heap.size → k ≠ b → W'.heap[k]? = W.heap[k]?
theorem sortWorld_kept {α : Type} [Inhabited α] (enc : α → Value) (w : World) (blk off m : Nat) (dk : Array α) (os : Array Obj) : Kept1 blk w (sortWorld enc w blk off m dk os) := by
  refine ⟨rfl, rfl, rfl, by simp [sortWorld, grow, putRow, mapBlock, Sort.ahead], fun k hk hne => ?_⟩
  simp only [sortWorld, grow, putRow, mapBlock, Sort.ahead]
  rw [Array.getElem?_append_left (by simpa using hk), Array.getElem?_modify, if_neg (Ne.symm hne)]
/-- A row of numbers, known to the element. -/
def RowN (w : World) (g : Nat) (l : List Nat) : Prop := w.heap[g]? = some (.cells (l.map fun i : Nat => Value.int .i64 (i : Int)).toArray 3 (0, 0))
def encF (m : Nat) (x : Fin (m + 1)) : Value := .int .i64 (x.val : Int)
def idF (m : Nat) : Array (Fin (m + 1)) := Array.ofFn fun i => i
instance finInh (m : Nat) : Inhabited (Fin (m + 1)) := ⟨⟨0, Nat.succ_pos m⟩⟩
theorem idF_get (m i : Nat) (h : i < m + 1) : (idF m)[i]! = ⟨i, h⟩ := by
  rw [getElem!_pos (idF m) i (by simpa [idF] using h)]
  simp [idF]
theorem row_cell {w : World} {g : Nat} {l : List Nat} (h : RowN w g l) {i k : Nat} (hi : l[i]? = some k) : w.cell? ⟨g, i, none⟩ = some (.int .i64 (k : Int)) := by
  have := cell_of_row w g i _ _ _ h
  rw [this]
  simp [hi]
theorem idF_holds {w : World} {g m : Nat} (h : RowN w g (List.range (m + 1))) : Holds (encF m) w g 0 (idF m) := fun j hj => by
  have hj' : j < m + 1 := by simpa [idF] using hj
  refine ⟨?_, ?_⟩
  · rw [Nat.zero_add, row_cell h (k := j) (by simp [hj']), idF_get m j hj']
    rfl
  · rw [Nat.zero_add]
    exact frozen_of_row w g j _ _ h
theorem row_sorted {w : World} {g m : Nat} (h : RowN w g (List.range (m + 1))) (d : Array (Fin (m + 1))) (hd : d.size = m + 1) (n : Nat) (os : Array Obj) : RowN (sortWorld (encF m) w g 0 n d os) g (d.toList.map fun x => x.val) := by
  have hg : g < w.heap.size := (Array.getElem?_eq_some_iff.1 h).1
  unfold RowN
  simp only [sortWorld, grow, putRow, mapBlock, Sort.ahead]
  rw [Array.getElem?_append_left (by simpa using hg), Array.getElem?_modify, if_pos rfl]
  rw [show w.heap[g]? = _ from h]
  simp only [Option.map_some, onCells, Option.some.injEq, Obj.cells.injEq, and_true]
  apply Array.ext
  · simp [putCells, hd]
  · intro i h1 h2
    have hi : i < m + 1 := by simpa [putCells] using h1
    simp only [putCells, Array.getElem_mapIdx]
    rw [if_pos ⟨Nat.zero_le _, by omega⟩]
    simp [encF, getElem!_pos d i (by omega)]
def cfSh (rs : List Int) (m : Nat) (x y : Fin (m + 1)) : Int := cmpI (rs.getD y.val 0) (rs.getD x.val 0)
theorem ltSh (rs : List Int) (m : Nat) (x y : Fin (m + 1)) : ltOf (cfSh rs m) x y = decide (rs.getD y.val 0 < rs.getD x.val 0) := by
  unfold ltOf cfSh cmpI
  generalize rs.getD y.val 0 = a
  generalize rs.getD x.val 0 = b
  by_cases h : a < b
  · simp [h]
  · by_cases h2 : b < a <;> simp [h, h2]
theorem ext_all {α : Type} (d : Array α) (n : Nat) (h : d.size = n) : d.extract 0 n = d := by
  subst h
  exact Array.extract_size ..
theorem swoSh (rs : List Int) (m : Nat) : SWO (ltOf (cfSh rs m)) := by
  refine ⟨fun x => ?_, fun x y z => ?_, fun x y z => ?_⟩
  · rw [ltSh]; simp
  · rw [ltSh, ltSh, ltSh]; simp; omega
  · rw [ltSh, ltSh, ltSh]; simp; omega
theorem idF_list (m : Nat) : (idF m).toList.map (fun x => x.val) = List.range (m + 1) := by
  refine List.ext_getElem (by simp [idF]) fun i h1 h2 => ?_
  rw [List.getElem_map, Array.getElem_toList, List.getElem_range]
  simp only [idF, Array.getElem_ofFn]
theorem sortStable {n : Nat} (hn : n ≤ 12) (Og Rb : Nat) (Q : World → Prop) (w : World)
    (hins : Calls Tryz.prog 123 #[.slice (some ⟨Og, 0, none⟩) n n, .int .i64 0, .int .i64 n, .func (.func 37) #[] #[.pointer (some ⟨Rb, 0, none⟩)]] w fun e w' => e = .returned (.tuple #[]) ∧ Q w') :
    Calls Tryz.prog 36 #[.slice (some ⟨Og, 0, none⟩) n n, .func (.func 37) #[] #[.pointer (some ⟨Rb, 0, none⟩)]] w fun e w' => e = .returned (.tuple #[]) ∧ Q w' := by
  have nz : ¬ (20 : Int) ≤ n := by omega
  have nz2 : ¬ (20 : Int) < n := by omega
  have hst : Calls Tryz.prog 81 #[.slice (some ⟨Og, 0, none⟩) n n, .int .i64 n, .func (.func 37) #[] #[.pointer (some ⟨Rb, 0, none⟩)]] w fun e w' => e = .returned (.tuple #[]) ∧ Q w' := by
    clear hn
    go_enter Tryz.func81, Tryz.ntmps81
    go_wp2
    refine wp_loop_rounds 1 ?_
    rw [rounds_succ]
    go_wp2_with (go_at_call 123; refine hins.mono ?_; rintro e w2 ⟨rfl, hQ⟩)
    refine wp_loop_rounds 1 ?_
    rw [rounds_succ]
    go_wp2
    go_end0
    exact ⟨rfl, hQ⟩
  clear hins nz nz2 hn
  go_enter Tryz.func36, Tryz.ntmps36
  go_wp2_with (go_at_call 81; refine hst.mono ?_; rintro e w2 ⟨rfl, hQ⟩)
  go_end0
  exact ⟨rfl, hQ⟩
/-- An order of the places, the greatest rest first. -/
def OrderOf (rs : List Int) (p : List Nat) : Prop := p.Perm (List.range rs.length) ∧ ∀ (a b i k : Nat), a < b → p[a]? = some i → p[b]? = some k → rs.getD k 0 ≤ rs.getD i 0
theorem stable_ok (rs : List Int) (Og Rb Rg : Nat) (w : World) (hn0 : 0 < rs.length) (hn : rs.length ≤ 12) (hO : RowN w Og (List.range rs.length)) (hRb : w.cell? ⟨Rb, 0, none⟩ = some (.slice (some ⟨Rg, 0, none⟩) rs.length rs.length)) (hRg : IAt w Rg 0 rs) (h1 : Rb ≠ Og) (h2 : Rg ≠ Og) (l1 : Rb < w.heap.size) (l2 : Rg < w.heap.size) :
    Calls Tryz.prog 36 #[.slice (some ⟨Og, 0, none⟩) rs.length rs.length, .func (.func 37) #[] #[.pointer (some ⟨Rb, 0, none⟩)]] w fun e w' => ∃ p, e = .returned (.tuple #[]) ∧ OrderOf rs p ∧ RowN w' Og p ∧ Kept1 Og w w' := by
  obtain ⟨m, hm⟩ : ∃ m, rs.length = m + 1 := ⟨rs.length - 1, by omega⟩
  have eg : ∀ args w, (callFunc 37 args).run Tryz.prog w = .ok (.enter 37 args) w := enters_of Tryz.func37 (by kernel_rfl) rfl
  have hcmp : CmpReads Tryz.prog 37 #[.pointer (some ⟨Rb, 0, none⟩)] (encF m) (cfSh rs m) Og 0 (idF m).size w := fun q os dk _ x y => by
    have hk := sortWorld_kept (encF m) w Og 0 q dk os
    have hat : ∀ z : Fin (m + 1), (sortWorld (encF m) w Og 0 q dk os).cell? ⟨Rg, z.val, none⟩ = some (.int .i64 (rs.getD z.val 0)) := fun z => by
      have hz : z.val < rs.length := by have := z.isLt; omega
      rw [World.cell?_of_block (a := ⟨Rg, _, none⟩) (hk.block Rg l2 h2)]
      have := hRg z.val _ (List.getElem?_eq_getElem hz)
      rw [Nat.zero_add] at this
      rw [this, List.getD_eq_getElem?_getD, List.getElem?_eq_getElem hz]
      rfl
    exact cmpSh_ok Rb Rg (m + 1) x.val y.val _ _ _ (by rw [World.cell?_of_block (a := ⟨Rb, 0, none⟩) (hk.block Rb l1 h1), hRb, hm]) (hat x) (hat y) x.isLt y.isLt
  have hsz : (idF m).size = m + 1 := by simp [idF]
  rw [hm] at hO hn ⊢
  have hH := idF_holds hO
  have hOg : Og < w.heap.size := (Array.getElem?_eq_some_iff.1 hO).1
  have hins := Any.insertionSortCmpFunc_s Tryz.insF (encF m) (cfSh rs m) 37 #[.pointer (some ⟨Rb, 0, none⟩)] Og 0 (m + 1) 0 (m + 1) (idF m) (idF m) w w eg hcmp.lays ⟨fun _ => rfl, hH, hOg⟩ rfl (SW.start hH) (Nat.zero_le _) (by omega) (by omega)
  rw [hsz] at hins
  obtain ⟨hperm, hsort⟩ := insertionSort_holds (swoSh rs m) (idF m) 0 (m + 1) (Nat.zero_le _) (by omega)
  generalize hd' : insertionSort (ltOf (cfSh rs m)) (idF m) 0 (m + 1) = d' at hins hperm hsort
  have hds : d'.size = m + 1 := hperm.1.trans hsz
  have hp : (d'.toList.map fun x => x.val).Perm (List.range (m + 1)) := by
    have h := hperm.2.2
    rw [ext_all d' _ hds, ext_all (idF m) _ hsz] at h
    have h3 := h.map fun x => x.val
    rwa [idF_list] at h3
  have hord : OrderOf rs (d'.toList.map fun x => x.val) := by
    refine ⟨by rw [hm]; exact hp, fun a b i k hab ha hb => ?_⟩
    rw [List.getElem?_map] at ha hb
    have hbl : b < m + 1 := by
      refine Classical.byContradiction fun h => ?_
      rw [List.getElem?_eq_none (by simp; omega)] at hb
      cases hb
    have hs := hsort a b (Nat.zero_le _) hab hbl
    rw [ltSh] at hs
    have ea : d'.toList[a]? = some d'[a]! := by rw [Array.getElem?_toList, Array.getElem?_eq_getElem (by omega), getElem!_pos d' a (by omega)]
    have eb : d'.toList[b]? = some d'[b]! := by rw [Array.getElem?_toList, Array.getElem?_eq_getElem (by omega), getElem!_pos d' b (by omega)]
    rw [ea] at ha
    rw [eb] at hb
    simp at ha hb
    subst ha
    subst hb
    simp at hs
    simpa [List.getD_eq_getElem?_getD] using hs
  have hst := sortStable (n := m + 1) (by omega) Og Rb (fun w' => SW (encF m) w Og 0 d' w') w hins
  refine hst.mono ?_
  rintro e w' ⟨rfl, q, os, rfl⟩
  exact ⟨_, rfl, hord, row_sorted hO d' hds q os, sortWorld_kept _ _ _ _ _ _ _⟩
end Go.Proofs
