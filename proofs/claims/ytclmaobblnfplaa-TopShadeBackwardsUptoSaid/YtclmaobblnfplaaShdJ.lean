/- Shades: rows that a call makes, and listOf over colours with a distance; Min and Index. -/
import Derived.Test.YtclmaobblnfplaaShdI
import Derived.Laws.MakeOwn
namespace Go.Proofs
open Go.RowKit Go.MapKept
set_option maxHeartbeats 16000000
set_option maxRecDepth 1000000
/-- A block known to the cell. -/
def RowK (w : World) (t : TypeId) (g : Nat) (cs : List Value) : Prop := w.heap[g]? = some (.cells cs.toArray t (0, 0))
theorem RowK.lt {w : World} {t : TypeId} {g : Nat} {cs : List Value} (h : RowK w t g cs) : g < w.heap.size := (Array.getElem?_eq_some_iff.1 h).1
theorem RowK.cell {w : World} {t : TypeId} {g : Nat} {cs : List Value} (h : RowK w t g cs) {i : Nat} {x : Value} (hi : cs[i]? = some x) : w.cell? ⟨g, i, none⟩ = some x := by
  rw [cell_of_row w g i _ _ _ h]
  simp [hi]
theorem RowK.fz {w : World} {t : TypeId} {g : Nat} {cs : List Value} (h : RowK w t g cs) (i : Nat) : w.frozen? ⟨g, i, none⟩ = false := frozen_of_row w g i _ _ h
theorem RowK.set {w : World} {t : TypeId} {g : Nat} {cs : List Value} (h : RowK w t g cs) (i : Nat) (x : Value) : RowK (w.setCell ⟨g, i, none⟩ x) t g (cs.set i x) := by
  have := heap_setCell_same w g i _ t x h
  unfold RowK
  rw [this]
  simp
theorem RowK.keep {w w' : World} {t : TypeId} {g : Nat} {cs : List Value} (h : RowK w t g cs) (hb : w'.heap[g]? = w.heap[g]?) : RowK w' t g cs := hb.trans h
theorem RowK.below {w w' : World} {t : TypeId} {g : Nat} {cs : List Value} (h : RowK w t g cs) (hb : Below w.heap.size w w') : RowK w' t g cs := h.keep (hb.block g h.lt)
theorem RowK.made {w : World} {t : TypeId} {B g n s : Nat} {xs : List Value} (h : w.ownsRow B t s (.slice (some ⟨g, 0, none⟩) n n) n xs) : RowK w t g xs := by
  obtain ⟨h0, ⟨h1, -⟩ | ⟨g', cap, cur, h1, -, h2, -, -, h3, h4⟩⟩ := h
  · cases h1
  · injection h1 with e1 e2 e3
    injection e1 with e1
    injection e1 with e1
    subst e1
    subst e3
    unfold RowK
    rw [h2]
    congr 1
    congr 1
    apply Array.ext'
    rw [List.take_of_length_le (by simp [h3])] at h4
    rw [h4]
/-- A row of ints. -/
def IntsAt (w : World) (b o : Nat) (l : List Int) : Prop := ∀ i x, l[i]? = some x → w.cell? ⟨b, o + i, none⟩ = some (.int .i64 x)
theorem shMin_ok (l : List Int) (b cap : Nat) (w : World) (hl : IntsAt w b 0 l) (h0 : 0 < l.length) (hn : l.length ≤ 100000) :
    Calls Try.prog 33 #[.slice (some ⟨b, 0, none⟩) l.length cap] w fun e w' => (∃ m, e = .returned (.int .i64 m) ∧ m ∈ l ∧ ∀ x ∈ l, m ≤ x) ∧ w' = w := by
  obtain ⟨x0, hx0⟩ : ∃ x0, l[0]? = some x0 := ⟨_, List.getElem?_eq_getElem h0⟩
  have r0 := hl 0 x0 hx0
  have hp : (1 : Int) ≤ l.length := by omega
  go_enter Try.func33, Try.ntmps33
  go_wp2
  go_loopw [3, 4] (fun m i wr => ∃ (k : Nat) (mm : Int), k ≤ l.length ∧ 1 ≤ k ∧ i = .int .i64 k ∧ m = .int .i64 mm ∧ mm ∈ l ∧ (∀ j x, j < k → l[j]? = some x → mm ≤ x) ∧ wr = w) (fun _ i _ => l.length - (intOf i).toNat)
  case atStart => exact ⟨1, x0, by omega, by omega, rfl, rfl, List.mem_of_getElem? hx0, fun j x hj hx => by
    obtain rfl : j = 0 := by omega
    obtain rfl := Option.some.inj (hx0.symm.trans hx)
    exact Int.le_refl _, rfl⟩
  case round =>
    obtain ⟨k, mm, hk, hk1, rfl, rfl, hm, hall, rfl⟩ := hrel
    rcases Nat.lt_or_eq_of_le hk with hkn | rfl
    · obtain ⟨x, hx⟩ : ∃ x, l[k]? = some x := ⟨_, List.getElem?_eq_getElem hkn⟩
      have rk := hl k x hx
      rw [Nat.zero_add] at rk
      have hi0 : (0 : Int) ≤ k := by omega
      have hi1 : (k : Int) < l.length := by omega
      have hwk := wrap64_small (n := (k : Int) + 1) (by omega)
      go_wp2
      refine ⟨⟨k + 1, if x < mm then x else mm, hkn, by omega, by simp, rfl, ?_, fun j y hj hy => ?_, trivial⟩, by simp [intOf]; omega⟩
      · split
        · exact List.mem_of_getElem? hx
        · exact hm
      · rcases Nat.lt_or_eq_of_le (Nat.le_of_lt_succ hj) with h1 | rfl
        · have := hall j y h1 hy
          split <;> omega
        · obtain rfl := Option.some.inj (hx.symm.trans hy)
          split <;> omega
    · go_wp2
      go_ret
      refine ⟨⟨mm, rfl, hm, fun x hx => ?_⟩, rfl⟩
      obtain ⟨j, hj⟩ := List.mem_iff_getElem?.1 hx
      exact hall j x (List.getElem?_eq_some_iff.1 hj).1 hj
theorem shIndex_ok (l : List Int) (m : Int) (b cap : Nat) (w : World) (hl : IntsAt w b 0 l) (hm : m ∈ l) (hn : l.length ≤ 100000) :
    Calls Try.prog 48 #[.slice (some ⟨b, 0, none⟩) l.length cap, .int .i64 m] w fun e w' => (∃ j : Nat, e = .returned (.int .i64 j) ∧ l[j]? = some m ∧ ∀ i x, i < j → l[i]? = some x → x ≠ m) ∧ w' = w := by
  go_enter Try.func48, Try.ntmps48
  go_wp2
  go_loopw [8] (fun i wr => ∃ k : Nat, k ≤ l.length ∧ i = .int .i64 k ∧ (∀ j x, j < k → l[j]? = some x → x ≠ m) ∧ wr = w) (fun i _ => l.length - (intOf i).toNat)
  case atStart => exact ⟨0, Nat.zero_le _, rfl, fun j x hj _ => absurd hj (Nat.not_lt_zero j), rfl⟩
  case round =>
    obtain ⟨k, hk, rfl, hall, rfl⟩ := hrel
    rcases Nat.lt_or_eq_of_le hk with hkn | rfl
    · obtain ⟨x, hx⟩ : ∃ x, l[k]? = some x := ⟨_, List.getElem?_eq_getElem hkn⟩
      have rk := hl k x hx
      rw [Nat.zero_add] at rk
      have hi0 : (0 : Int) ≤ k := by omega
      have hi1 : (k : Int) < l.length := by omega
      have hwk := wrap64_small (n := (k : Int) + 1) (by omega)
      by_cases he : m = x
      · subst he
        go_wp2
        go_ret
        exact ⟨⟨k, rfl, hx, hall⟩, rfl⟩
      · go_wp2
        refine ⟨⟨k + 1, hkn, by simp, fun j y hj hy => ?_, trivial⟩, by simp [intOf]; omega⟩
        rcases Nat.lt_or_eq_of_le (Nat.le_of_lt_succ hj) with h1 | rfl
        · exact hall j y h1 hy
        · obtain rfl := Option.some.inj (hx.symm.trans hy)
          exact fun e => he e.symm
    · exfalso
      obtain ⟨j, hj⟩ := List.mem_iff_getElem?.1 hm
      exact hall j m (List.getElem?_eq_some_iff.1 hj).1 hj rfl
end Go.Proofs
