/- grid.sorted, for any list of cells. -/
import Derived.Test.YtfdhppdkgfioaaaGreatDoorCompactG
import Derived.Test.YtfdhppdkgfioaaaGreatDoorCells
namespace Go.Proofs
open Go.Shelf Go.RowKit Go.Lib Go.Sort
set_option maxHeartbeats 8000000
set_option maxRecDepth 1000000
theorem sortC_asc (l : List Cel) : ∀ i a b, (sortC l)[i]? = some a → (sortC l)[i+1]? = some b → ltC b a = false := by
  intro i a b ha hb
  have tr : ∀ a b c : Cel, (!ltC b a) = true → (!ltC c b) = true → (!ltC c a) = true := fun a b c h1 h2 => by
    simp only [Bool.not_eq_true'] at *
    exact swoC.ntrans c b a h2 h1
  have tot : ∀ a b : Cel, ((!ltC b a) || (!ltC a b)) = true := fun a b => by
    cases h1 : ltC b a with
    | false => rfl
    | true =>
      cases h2 : ltC a b with
      | false => rfl
      | true =>
        have := swoC.trans a b a h2 h1
        rw [swoC.irrefl] at this
        cases this
  have hp := List.pairwise_mergeSort (le := fun x y => !ltC y x) tr tot l
  obtain ⟨i1, e1⟩ := List.getElem?_eq_some_iff.1 ha
  obtain ⟨i2, e2⟩ := List.getElem?_eq_some_iff.1 hb
  have h1 := List.pairwise_iff_getElem.1 hp i (i+1) i1 i2 (Nat.lt_succ_self i)
  have e1' : (l.mergeSort fun x y => !ltC y x)[i] = a := e1
  have e2' : (l.mergeSort fun x y => !ltC y x)[i+1] = b := e2
  rw [e1', e2'] at h1
  simpa using h1
theorem sortedG (l : List Cel) (v : Value) (w : World) (hl : Sl w v l) (hn : l.length ≤ 10000) :
    Calls Tryz.prog 113 #[v] w fun e w' => ∃ B out, e = .returned (.slice (some ⟨B, 0, none⟩) out.length out.length) ∧ w.heap.size ≤ B ∧ Filled w' B out.length 24 out ∧ Up out ∧ (∀ c, c ∈ out ↔ c ∈ l) ∧ Below w.heap.size w w' := by
  obtain ⟨A, cap, rfl⟩ := hl.form
  obtain ⟨i0, hi, hz0, hz1, hz2⟩ := info_parts (P := Tryz.prog) (e := 203) (z := .agg #[.int .i64 0, .int .i64 0, .int .i64 0]) (size := 3) (bytes := 24) (by kernel_rfl)
  obtain ⟨j0, hj, hy0, hy1, hy2⟩ := info_parts (P := Tryz.prog) (e := 24) (z := .agg #[.int .i64 0, .int .i64 0, .int .i64 0]) (size := 3) (bytes := 24) (by kernel_rfl)
  go_enter Tryz.func113, Tryz.ntmps113
  go_wp2_with (at_make; refine wpList_make_full _ rfl _ _ 205 rfl w.heap.size 203 i0 _ 3 Tryz.underlying205 hi hz0 hz1 .i64 .i64 _ _ l.length rfl rfl rfl rfl ?c1 ?c2 ?c3 ?_)
  case c1 => rw [hz2]; omega
  case c2 => unfold maxLen; omega
  case c3 => exact Nat.le_refl _
  intro w1 hown hgrow
  have hF1 : Filled w1 w.heap.size l.length 203 (l.take 0) ∧ w.heap.size < w1.heap.size := by
    rcases hown.2 with ⟨hv, _⟩ | ⟨g, c', cur, hv, _, hg, _, _, hcs, _⟩
    · cases hv
    · simp only [Value.slice.injEq, Option.some.injEq, Addr.mk.injEq] at hv
      obtain ⟨⟨rfl, _⟩, _, rfl⟩ := hv
      refine ⟨⟨cur, hg, hcs, fun i c h => by simp at h⟩, ?_⟩
      exact (Array.getElem?_eq_some_iff.1 hg).1
  have hB1 : Below w.heap.size w w1 := (Below.refl _ _).grown hgrow (Nat.le_refl _) (fun k hk => by cases hk)
  clear hown hgrow
  go_wp2
  go_loopw [14] (fun i wr => ∃ k : Nat, k ≤ l.length ∧ i = .int .i64 k ∧ Filled wr w.heap.size l.length 203 (l.take k) ∧ w.heap.size < wr.heap.size ∧ Below w.heap.size w wr) (fun i _ => l.length - (intOf i).toNat)
  case atStart => exact ⟨0, Nat.zero_le _, rfl, hF1.1, hF1.2, hB1⟩
  case round =>
    obtain ⟨k, hk, rfl, hF, hlt, hBel⟩ := hrel
    rcases Nat.lt_or_eq_of_le hk with hkn | rfl
    · obtain ⟨blk, off, x, y, z, rfl, -, hb, hc, r0, r1, r2⟩ := hl.cells hkn
      rw [← hBel.cell (p := ⟨blk, off + k * 3, none⟩) hb] at r0
      rw [← hBel.cell (p := ⟨blk, off + k * 3 + 1, none⟩) hb] at r1
      rw [← hBel.cell (p := ⟨blk, off + k * 3 + 2, none⟩) hb] at r2
      have fz := hF.fz
      obtain ⟨v0, o0⟩ := hF.old (j := k * 3) (by omega)
      obtain ⟨v1, o1⟩ := hF.old (j := k * 3 + 1) (by omega)
      obtain ⟨v2, o2⟩ := hF.old (j := k * 3 + 2) (by omega)
      have hput := fun o => hF.put hkn hc o
      clear hB1 hF1 hl hF
      go_wp2
      refine ⟨⟨k + 1, hkn, rfl, hput _, by simp [World.setCell]; omega, below3 hBel (Nat.le_of_lt hlt) k _ _ _ _⟩, ?_⟩
      simp [intOf]; omega
    · clear hl hF1 hB1
      rw [List.take_length] at hF
      have hsf := sortFunc_ok l w.heap.size l.length wr hF (by omega)
      clear hF
      have hcp : ∀ W, Filled W w.heap.size l.length 203 (sortC l) → Calls Tryz.prog 156 #[.slice (some ⟨w.heap.size, 0, none⟩) l.length l.length] W fun e w' => ∃ out, e = .returned (.slice (some ⟨w.heap.size, 0, none⟩) out.length l.length) ∧ Filled w' w.heap.size l.length 203 out ∧ Up out ∧ (∀ c, c ∈ out ↔ c ∈ l) ∧ Below w.heap.size W w' := fun W hW => by
        have := compactG (sortC l) w.heap.size l.length W (by rw [sortC_len]; exact hW) (by rw [sortC_len]; exact hn) (by rw [sortC_len]; exact Nat.le_refl _) hn (sortC_asc l)
        rw [sortC_len] at this
        refine this.mono ?_
        rintro e w' ⟨out, h1, h2, h3, h4, h5⟩
        exact ⟨out, h1, h2, h3, fun c => (h4 c).trans (List.mergeSort_perm _ _).mem_iff, h5⟩
      go_wp2_with (first
        | (go_at_call 155; refine hsf.mono ?_; rintro e w2 ⟨rfl, hF2, hB2⟩)
        | (go_at_call 156; refine (hcp _ hF2).mono ?_; rintro e w3 ⟨out, rfl, hF3, hup, hmem, hB3⟩; have hol : out.length ≤ l.length := up_len_le hup (fun c hc => (hmem c).1 hc))
        | (at_make; refine wpList_make_full _ rfl _ _ 22 rfl w3.heap.size 24 j0 _ 3 Tryz.underlying22 hj hy0 hy1 .i64 .i64 _ _ out.length rfl rfl rfl rfl ?d1 ?d2 ?d3 ?_))
      case d1 => rw [hy2]; omega
      case d2 => unfold maxLen; omega
      case d3 => exact Nat.le_refl _
      intro w4 hown hgrow
      have hF4 := made_filled rfl hown out
      have hB4 : Below w3.heap.size w3 w4 := (Below.refl _ _).grown hgrow (Nat.le_refl _) (fun k hk => by cases hk)
      have hB0 : Below w.heap.size w w3 := (hBel.trans hB2).trans hB3
      have hlt3 := hF3.lt
      clear hown hgrow hsf hcp hF2 hB2 hBel hlt hB3
      go_wp2
      go_loopw [33] (fun i wr => ∃ k : Nat, k ≤ out.length ∧ i = .int .i64 k ∧ Filled wr w3.heap.size out.length 24 (out.take k) ∧ w3.heap.size < wr.heap.size ∧ Below w3.heap.size w3 wr) (fun i _ => out.length - (intOf i).toNat)
      case atStart => exact ⟨0, Nat.zero_le _, rfl, hF4.1, hF4.2, hB4⟩
      case round =>
        obtain ⟨k, hk, rfl, hF, hlt, hBel⟩ := hrel
        rcases Nat.lt_or_eq_of_le hk with hkn | rfl
        · obtain ⟨x, y, z, hc⟩ : ∃ x y z, out[k]? = some (x, y, z) := ⟨_, _, _, List.getElem?_eq_getElem hkn⟩
          obtain ⟨r0, r1, r2⟩ := (hF3.below hBel hlt3).cell hc
          have fz := hF.fz
          obtain ⟨v0, o0⟩ := hF.old (j := k * 3) (by omega)
          obtain ⟨v1, o1⟩ := hF.old (j := k * 3 + 1) (by omega)
          obtain ⟨v2, o2⟩ := hF.old (j := k * 3 + 2) (by omega)
          have hput := fun o => hF.put hkn hc o
          clear hF hF3 hF4 hB4
          go_wp2
          refine ⟨⟨k + 1, hkn, rfl, hput _, by simp [World.setCell]; omega, below3 hBel (Nat.le_of_lt hlt) k _ _ _ _⟩, ?_⟩
          simp [intOf]; omega
        · rw [List.take_length] at hF
          clear hF3 hF4 hB4
          go_wp2
          go_ret
          exact ⟨_, out, rfl, Nat.le_of_lt hlt3, hF, hup, hmem, hB0.trans (hBel.mono (Nat.le_of_lt hlt3))⟩
end Go.Proofs
