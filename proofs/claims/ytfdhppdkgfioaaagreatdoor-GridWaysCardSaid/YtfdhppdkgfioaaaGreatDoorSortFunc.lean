import Derived.Test.YtfdhppdkgfioaaaGreatDoorLay
import Derived.Shelf.SlSortCmp.WholeK
import Derived.Ground.SlsfProg
namespace Go.Proofs
open Go.Shelf Go.RowKit Go.Lib Go.Sort
set_option maxHeartbeats 4000000
set_option maxRecDepth 1000000

/-- The order of cells. -/
def ltC (x y : Cel) : Bool := decide (x.1 < y.1 ∨ x.1 = y.1 ∧ (x.2.1 < y.2.1 ∨ x.2.1 = y.2.1 ∧ x.2.2 < y.2.2))
def cf3 (x y : Cel) : Int := cmp3 x.1 x.2.1 x.2.2 y.1 y.2.1 y.2.2
theorem cmp3_lt (x y : Cel) : cf3 x y < 0 ↔ ltC x y = true := by
  obtain ⟨a, b, c⟩ := x
  obtain ⟨d, e, f⟩ := y
  simp only [cf3, cmp3, orI, cmpI, ltC, decide_eq_true_eq]
  repeat' split
  all_goals first | omega | (simp_all; try omega)
theorem cmp3_eq (x y : Cel) : cf3 x y = 0 ↔ x = y := by
  obtain ⟨a, b, c⟩ := x
  obtain ⟨d, e, f⟩ := y
  simp only [cf3, cmp3, orI, cmpI, Prod.mk.injEq]
  repeat' split
  all_goals first | omega | (simp_all; try omega)
theorem ltOf_eq (x y : Cel) : ltOf cf3 x y = ltC x y := by
  unfold ltOf
  cases h : ltC x y with
  | true => simpa using (cmp3_lt x y).2 h
  | false =>
    simp only [decide_eq_false_iff_not]
    intro hh
    rw [(cmp3_lt x y).1 hh] at h
    cases h
theorem swoC : SWO ltC where
  irrefl x := by simp [ltC]
  trans x y z h1 h2 := by
    simp only [ltC, decide_eq_true_eq] at *
    omega
  ntrans x y z h1 h2 := by
    simp only [ltC, decide_eq_false_iff_not] at *
    omega
theorem antiC (x y : Cel) (h1 : ltC x y = false) (h2 : ltC y x = false) : x = y := by
  obtain ⟨a, b, c⟩ := x
  obtain ⟨d, e, f⟩ := y
  simp only [ltC, decide_eq_false_iff_not] at h1 h2
  have : a = d ∧ b = e ∧ c = f := by omega
  rw [this.1, this.2.1, this.2.2]
def sortC (l : List Cel) : List Cel := l.mergeSort fun x y => !ltC y x
def encC (c : Cel) : List Value := [.int .i64 c.1, .int .i64 c.2.1, .int .i64 c.2.2]

theorem Filled.holds {w : World} {B : Nat} {T : TypeId} {l : List Cel} (h : Filled w B l.length T l) : HoldsK encC 3 w B 0 l.toArray := by
  obtain ⟨arr, ha, has, hav⟩ := h
  intro j hj
  simp only [size_flatK, List.size_toArray] at hj
  have hq : j / 3 < l.length := by omega
  refine ⟨?_, frozen_of_row w _ _ arr T ha⟩
  rw [get_flatK _ _ _ _ (by simpa using hj)]
  obtain ⟨c, hc⟩ : ∃ c, l[j / 3]? = some c := ⟨_, List.getElem?_eq_getElem hq⟩
  obtain ⟨h0, h1, h2⟩ := hav (j / 3) c hc
  have e : (l.toArray)[j / 3]! = c := by simp [getElem!_def, hc]
  rw [e]
  have cell : ∀ i, w.cell? ⟨B, i, none⟩ = arr[i]? := fun i => by simp [World.cell?, ha]
  rw [Nat.zero_add, cell]
  rcases (show j % 3 = 0 ∨ j % 3 = 1 ∨ j % 3 = 2 by omega) with hr | hr | hr
  · rw [hr, show arr[j]? = arr[j / 3 * 3]? by congr 1; omega]; exact h0
  · rw [hr, show arr[j]? = arr[j / 3 * 3 + 1]? by congr 1; omega]; exact h1
  · rw [hr, show arr[j]? = arr[j / 3 * 3 + 2]? by congr 1; omega]; exact h2

theorem Filled.sorted {w : World} {B : Nat} {T : TypeId} {l : List Cel} (h : Filled w B l.length T l) (d' : Array Cel) (hd : d'.size = l.length) (n : Nat) (os : Array Obj) :
    Filled (sortWorldK encC 3 w B 0 n d' os) B l.length T d'.toList := by
  obtain ⟨arr, ha, has, hav⟩ := h
  have hB : B < w.heap.size := (Array.getElem?_eq_some_iff.1 ha).1
  have hh : (sortWorldK encC 3 w B 0 n d' os).heap[B]? = some (.cells (putCells id 0 (flatK encC 3 d') arr) T (0, 0)) := by
    simp only [sortWorldK, grow, putRowK, putRow, mapBlock, Sort.ahead]
    rw [Array.getElem?_append_left (by simpa using hB), Array.getElem?_modify, if_pos rfl, ha]
    rfl
  refine ⟨_, hh, by simp [putCells, has], fun i c hi => ?_⟩
  have hil : i < d'.size := by
    have := (List.getElem?_eq_some_iff.1 hi).1
    simpa using this
  have key : ∀ r, r < 3 → (putCells id 0 (flatK encC 3 d') arr)[i * 3 + r]? = some ((encC c)[r]!) := fun r hr => by
    have hlt : i * 3 + r < arr.size := by omega
    simp only [putCells, Array.getElem?_mapIdx, Array.getElem?_eq_getElem hlt, Option.map_some]
    rw [if_pos ⟨Nat.zero_le _, by simp; omega⟩]
    simp only [Nat.sub_zero, id]
    rw [get_flatK _ _ _ _ (by omega)]
    have e1 : (i * 3 + r) / 3 = i := by omega
    have e2 : (i * 3 + r) % 3 = r := by omega
    rw [e1, e2]
    have : d'[i]! = c := by
      have h3 : d'.toList[i]? = some c := hi
      rw [Array.getElem?_toList] at h3
      simp [h3, getElem!_def]
    rw [this]
  exact ⟨key 0 (by omega), key 1 (by omega), key 2 (by omega)⟩

theorem sortFunc_ok (l : List Cel) (B cap : Nat) (w : World) (h : Filled w B l.length 203 l) (hn : l.length < 4611686018427387904) :
    Calls Tryz.prog 155 #[.slice (some ⟨B, 0, none⟩) l.length cap, .func (.func 154) #[] #[]] w fun e w' => e = .returned (.tuple #[]) ∧ Filled w' B l.length 203 (sortC l) ∧ Below B w w' := by
  have hB : B < w.heap.size := by obtain ⟨arr, ha, _⟩ := h; exact (Array.getElem?_eq_some_iff.1 ha).1
  have swo : SWO (ltOf cf3) := by rw [show ltOf cf3 = ltC from funext fun x => funext fun y => ltOf_eq x y]; exact swoC
  have eg : ∀ args w, (callFunc 154 args).run Tryz.prog w = .ok (.enter 154 args) w := enters_of Tryz.func154 (by kernel_rfl) rfl
  have hcmp : CmpLays Tryz.prog 154 #[] encC 3 cf3 B 0 l.toArray.size w := fun m os dk _ x y => by
    have := compare_ok x.1 x.2.1 x.2.2 y.1 y.2.1 y.2.2 (sortWorldK encC 3 w B 0 m dk os)
    exact this
  have hcon := AnyQ.slices_SortFunc Tryz.sortPl 3 Tryz.isAgg203 Tryz.sizeOf203 encC (fun _ => rfl) (fun x v hv => by simp [encC] at hv; rcases hv with rfl | rfl | rfl <;> rfl) cf3 swo 154 #[] B 0 cap l.toArray w eg hcmp h.holds hB (by simpa using hn)
  have e : l.toArray.size = l.length := by simp
  rw [e] at hcon
  refine hcon.mono ?_
  rintro e w' ⟨rfl, d', n, os, hp, hs, rfl⟩
  have hd : d'.size = l.length := by have := hp.1; simpa using this
  have hs' : d'.toList = sortC l := by
    have hp' : PermIn 0 l.toArray.size l.toArray d' := by simpa using hp
    have := sorted_unique_holds (lt := ltC) swoC antiC l.toArray d' hp' (by
      intro i j h1 h2 h3
      have := hs i j h1 h2 (by simpa using h3)
      rwa [ltOf_eq] at this)
    simpa [sortC] using this
  refine ⟨rfl, ?_, ?_⟩
  · rw [← hs']; exact h.sorted d' hd n os
  · refine ⟨rfl, rfl, rfl, ?_, fun k hk => ?_⟩
    · simp [sortWorldK, grow, putRowK, putRow, mapBlock, Sort.ahead]
    · simp only [sortWorldK, grow, putRowK, putRow, mapBlock, Sort.ahead]
      rw [Array.getElem?_append_left (by simp; omega), Array.getElem?_modify, if_neg (by omega)]
end Go.Proofs
