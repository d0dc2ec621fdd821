import Derived.Test.YtmgnidodkipohaaRefB
import Derived.Deep.QuietTactic
import Derived.BigQuiet
import Derived.StillTailTactics
namespace Go.Proofs
open Go.RowKit
set_option maxHeartbeats 4000000
set_option maxRecDepth 1000000
def Asc (l : List Cel) : Prop := ∀ i a b, l[i]? = some a → l[i+1]? = some b → cmp3 a.1 a.2.1 a.2.2 b.1 b.2.1 b.2.2 < 0
theorem gridCheck_ok (l : List Cel) (blk off cap : Nat) (w : World) (hl : RowAt w blk off l) (hb : blk < w.heap.size) (hn : l.length ≤ 4096) (hfit : ∀ c ∈ l, vecI c 1000 = 0) (hasc : Asc l) :
    Calls Try.prog 41 #[.slice (some ⟨blk, off, none⟩) l.length cap] w fun e w' => e = .returned (.int .i64 0) ∧ Below w.heap.size w w' := by
  go_enter Try.func41, Try.ntmps41
  have hn' : ¬ ((4096 : Int) < l.length) := by omega
  go_wp2
  go_loopw [11] (fun i wr => ∃ k : Nat, k ≤ l.length ∧ i = .int .i64 k ∧ Below w.heap.size w wr) (fun i _ => l.length - (intOf i).toNat)
  case atStart => exact ⟨0, Nat.zero_le _, rfl, Below.refl _ _⟩
  case round =>
    obtain ⟨k, hk, rfl, hBel⟩ := hrel
    rcases Nat.lt_or_eq_of_le hk with hkn | rfl
    · obtain ⟨x, y, z, hc⟩ : ∃ x y z, l[k]? = some (x, y, z) := ⟨_, _, _, List.getElem?_eq_getElem hkn⟩
      have hv := fun W => checkCell_ok x y z W
      rw [hfit _ (List.mem_of_getElem? hc)] at hv
      obtain ⟨r0, r1, r2⟩ := hl k _ hc
      rw [← hBel.cell (p := ⟨blk, off + k * 3, none⟩) hb] at r0
      rw [← hBel.cell (p := ⟨blk, off + k * 3 + 1, none⟩) hb] at r1
      rw [← hBel.cell (p := ⟨blk, off + k * 3 + 2, none⟩) hb] at r2
      have hsz := hBel.size
      rcases Nat.eq_zero_or_pos k with rfl | hpos
      · simp only [Nat.zero_mul, Nat.add_zero] at r0 r1 r2
        clear hl hfit hasc
        go_wp2_with (go_at_call 48; refine (hv _).mono ?_; rintro e w2 ⟨rfl, hB2⟩)
        have hB3 : Below w.heap.size w w2 := (hBel.alloc hsz _).trans (hB2.mono (by simp; omega))
        clear hB2 hv hBel
        go_quiet (fail)
        go_wp2
        exact ⟨⟨1, hkn, rfl, ⟨hB3.os, hB3.tape, hB3.output, hB3.size, hB3.block⟩⟩, by simp [intOf]; omega⟩
      · obtain ⟨px, py, pz, hp⟩ : ∃ x y z, l[k-1]? = some (x, y, z) := ⟨_, _, _, List.getElem?_eq_getElem (by omega)⟩
        have hlt := hasc (k-1) (px, py, pz) (x, y, z) hp (by rw [show k - 1 + 1 = k by omega]; exact hc)
        have hcm := fun W => compareCells_ok px py pz x y z W
        dsimp only at hlt
        generalize cmp3 px py pz x y z = r at hlt hcm
        obtain ⟨q0, q1, q2⟩ := hl (k-1) _ hp
        have hkk : (k - 1) * 3 + 3 = k * 3 := by omega
        clear hl hfit hasc
        go_wp2_with (go_at_call 48; refine (hv _).mono ?_; rintro e w2 ⟨rfl, hB2⟩)
        have hB3 : Below w.heap.size w w2 := (hBel.alloc hsz _).trans (hB2.mono (by simp; omega))
        have c0 : w2.cell? ⟨wr.heap.size, 0, none⟩ = some (.int .i64 x) := by rw [hB2.cell (p := ⟨wr.heap.size, 0, none⟩) (by simp)]; go_simp
        have c1 : w2.cell? ⟨wr.heap.size, 1, none⟩ = some (.int .i64 y) := by rw [hB2.cell (p := ⟨wr.heap.size, 1, none⟩) (by simp)]; go_simp
        have c2 : w2.cell? ⟨wr.heap.size, 2, none⟩ = some (.int .i64 z) := by rw [hB2.cell (p := ⟨wr.heap.size, 2, none⟩) (by simp)]; go_simp
        rw [← hB3.cell (p := ⟨blk, off + (k - 1) * 3, none⟩) hb] at q0
        rw [← hB3.cell (p := ⟨blk, off + (k - 1) * 3 + 1, none⟩) hb] at q1
        rw [← hB3.cell (p := ⟨blk, off + (k - 1) * 3 + 2, none⟩) hb] at q2
        clear hB2 hv hBel r0 r1 r2
        have hw : IntKind.i64.wrap ((k : Int) - 1) = (k : Int) - 1 := wrapS (by omega)
        have hi0 : 1 ≤ (k : Int) := by omega
        have hi1 : (k : Int) - 1 < l.length := by omega
        have hit : ((k : Int) - 1).toNat = k - 1 := by omega
        have hd : decide ((0 : Int) < k) = true := by simp; omega
        go_still_tail 9, (by kernel_rfl)
        change wpList _ _ _ _ _ w2.drew
        have hB4 : Below w.heap.size w w2.drew := ⟨hB3.os, hB3.tape, hB3.output, hB3.size, hB3.block⟩
        clear q0 q1 q2 c0 c1 c2 hw hi0 hi1 hit hd hB3
        generalize w2.drew = w3 at hB4 ⊢
        have hr : ¬ (0 ≤ r) := by omega
        go_wp2_with (go_at_call 78; refine (hcm _).mono ?_; rintro e w4 ⟨rfl, hB5⟩)
        exact ⟨⟨k + 1, hkn, rfl, hB4.trans (hB5.mono hB4.size)⟩, by simp [intOf]; omega⟩
    · clear hl hfit hasc
      go_wp2
      go_ret
      exact ⟨rfl, hBel⟩
end Go.Proofs
