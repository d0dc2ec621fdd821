/- grid.Union, for any two lists. -/
import Derived.Test.YtedjohdoenncbaaGreatDoorCheckG
import Derived.Test.YtedjohdoenncbaaGreatDoorSortedG
import Derived.Test.YtedjohdoenncbaaGreatDoorConcat
namespace Go.Proofs
open Go.RowKit
set_option maxHeartbeats 8000000
set_option maxRecDepth 1000000
theorem chk_len {l : List Cel} (h : chkI l = 0) : l.length ≤ 4096 := by
  unfold chkI at h
  split at h
  · cases h
  · omega
theorem unionG_ok (a b : List Cel) (va vb : Value) (w : World) (ha : Sl w va a) (hb : Sl w vb b) (ca : chkI a = 0) (cb : chkI b = 0) :
    Calls Tryz.prog 15 #[va, vb] w fun e w' => ∃ B out, (out.length ≤ 4096 ∧ e = .returned (.tuple #[.slice (some ⟨B, 0, none⟩) out.length out.length, .int .i64 0]) ∨ 4096 < out.length ∧ e = .returned (.tuple #[.slice none 0 0, .int .i64 5])) ∧ w.heap.size ≤ B ∧ Filled w' B out.length 38 out ∧ Up out ∧ (∀ c, c ∈ out ↔ c ∈ a ∨ c ∈ b) ∧ Below w.heap.size w w' := by
  have la := chk_len ca
  have lb := chk_len cb
  have h1 := gridCheckG a va w ha (by unfold maxLen; omega)
  have h2 := fun W (h : Below w.heap.size w W) => gridCheckG b vb W (hb.below h) (by unfold maxLen; omega)
  rw [ca] at h1
  rw [cb] at h2
  obtain ⟨A, acap, rfl⟩ := ha.form
  obtain ⟨A', bcap, rfl⟩ := hb.form
  have hcc : ∀ W blk, Below w.heap.size w W → blk < W.heap.size → W.cell? ⟨blk, 0, none⟩ = some (.slice A a.length acap) → W.cell? ⟨blk, 1, none⟩ = some (.slice A' b.length bcap) →
      Calls Tryz.prog 82 #[.slice (some ⟨blk, 0, none⟩) 2 2] W fun e w' => ∃ v', e = .returned v' ∧ Own w' W.heap.size v' (a ++ b) ∧ Below W.heap.size W w' := fun W blk hW hblk e0 e1 => by
    have h := concat_ok [.slice A a.length acap, .slice A' b.length bcap] [a, b] blk 0 2 W rfl (by simp) hblk (fun i v h => by
      match i, h with
      | 0, h => simp at h; subst h; exact e0
      | 1, h => simp at h; subst h; exact e1
      | i + 2, h => simp at h) (fun i v l h h' => by
      match i, h, h' with
      | 0, h, h' => simp at h h'; subst h h'; exact ha.below hW
      | 1, h, h' => simp at h h'; subst h h'; exact hb.below hW
      | i + 2, h, _ => simp at h) (by simp; omega)
    have e : [a, b].flatten = a ++ b := by simp
    rw [e] at h
    exact h
  clear ca cb
  go_enter Tryz.func15, Tryz.ntmps15
  go_wp2_with fail
  refine h1.mono ?_
  rintro e w2 ⟨rfl, hB2⟩
  have h2' := h2 w2 hB2
  clear h1 h2
  go_wp2_with fail
  refine h2'.mono ?_
  rintro e w3 ⟨rfl, hB3⟩
  have hB03 := hB2.trans (hB3.mono hB2.size)
  clear h2' hB2 hB3
  have hor : orI 0 0 0 = 0 := by decide
  go_wp2_with (go_at_call 81; refine (first2_ok 0 0 _ _ _ ?_ ?_).mono ?_; (go_simp); (go_simp); rintro e w5 ⟨rfl, hw5⟩; subst hw5)
  obtain ⟨W, hW⟩ : ∃ W, W = (w3.alloc (.cells #[.int .i64 0, .int .i64 0] 27)).alloc (.cells #[.slice A a.length acap, .slice A' b.length bcap] 22) := ⟨_, rfl⟩
  have hBW : Below w.heap.size w W := by subst hW; exact (hB03.alloc hB03.size _).alloc (by have := hB03.size; simp; omega) _
  have hlW : w3.heap.size + 1 < W.heap.size := by subst hW; simp
  have e0 : W.cell? ⟨w3.heap.size + 1, 0, none⟩ = some (.slice A a.length acap) := by subst hW; go_simp
  have e1 : W.cell? ⟨w3.heap.size + 1, 1, none⟩ = some (.slice A' b.length bcap) := by subst hW; go_simp
  have hc := hcc W _ hBW hlW e0 e1
  rw [← hW]
  clear hW hcc e0 e1 hlW
  refine hc.mono ?_
  rintro e w6 ⟨v6, rfl, hown6, hB6⟩
  have hs := sortedG (a ++ b) v6 w6 hown6.sl (by rw [List.length_append]; omega)
  have hB06 := hBW.trans (hB6.mono hBW.size)
  clear hown6 hB6 hc ha hb
  go_wp2_with (go_at_call 80; refine hs.mono ?_; rintro e w7 ⟨B, out, rfl, hBB, hF, hup, hmem, hB7⟩)
  all_goals go_ret2
  all_goals have hm : ∀ c, c ∈ out ↔ c ∈ a ∨ c ∈ b := fun c => (hmem c).trans List.mem_append
  · exact ⟨B, out, .inr ⟨by omega, rfl⟩, Nat.le_trans hB06.size hBB, hF, hup, hm, hB06.trans (hB7.mono hB06.size)⟩
  · exact ⟨B, out, .inl ⟨by omega, rfl⟩, Nat.le_trans hB06.size hBB, hF, hup, hm, hB06.trans (hB7.mono hB06.size)⟩
theorem unionG_bad1 (a b : List Cel) (va vb : Value) (w : World) (ha : Sl w va a) (hb : Sl w vb b) (la : a.length ≤ maxLen) (lb : b.length ≤ maxLen) (r : Int) (hr : orI (chkI a) (chkI b) 0 = r) (h0 : r ≠ 0) :
    Calls Tryz.prog 15 #[va, vb] w fun e w' => e = .returned (.tuple #[.slice none 0 0, .int .i64 r]) ∧ Below w.heap.size w w' := by
  have h1 := gridCheckG a va w ha la
  have h2 := fun W (h : Below w.heap.size w W) => gridCheckG b vb W (hb.below h) lb
  generalize chkI a = ra at h1 hr
  generalize chkI b = rb at h2 hr
  have hne : (r == 0) = false := by rw [beq_eq_false_iff_ne]; exact h0
  have hne' : (r != 0) = true := by rw [bne_iff_ne]; exact h0
  have hf2 := fun blk W => first2_ok ra rb blk 2 W
  simp only [hr] at hf2
  clear ha hb la lb hr h0
  go_enter Tryz.func15, Tryz.ntmps15
  go_wp2_with fail
  refine h1.mono ?_
  rintro e w2 ⟨rfl, hB2⟩
  have h2' := h2 w2 hB2
  clear h1 h2
  go_wp2_with fail
  refine h2'.mono ?_
  rintro e w3 ⟨rfl, hB3⟩
  have hB03 := hB2.trans (hB3.mono hB2.size)
  clear h2' hB2 hB3
  go_wp2_with (go_at_call 81; refine (hf2 _ _ ?_ ?_).mono ?_; (go_simp); (go_simp); rintro e w5 ⟨rfl, hw5⟩; subst hw5)
  go_ret2
  exact ⟨rfl, hB03.alloc hB03.size _⟩
end Go.Proofs
