import Derived.Test.YtmgnidodkipohaaMirrorA
import Derived.Deep.RegionWith
import Derived.Deep.RegionHeld3
namespace Go.Proofs
open Go.RowKit
set_option maxHeartbeats 8000000
set_option maxRecDepth 1000000
theorem mirror_ok (l : List Cel) (blk off cap : Nat) (j : Nat) (hj : j < 3) (w : World) (hl : RowAt w blk off l) (hb : blk < w.heap.size) (hn : l.length ≤ 4096) (hfit : ∀ c ∈ l, vecI c 1000 = 0) (hasc : Asc l)
    (hfit2 : ∀ c ∈ l.map (mirrorC j), vecI c 1000 = 0) (hnd : (l.map (mirrorC j)).Nodup) (hbig : ∀ c ∈ l, (-9000000 ≤ c.1 ∧ c.1 ≤ 9000000) ∧ (-9000000 ≤ c.2.1 ∧ c.2.1 ≤ 9000000) ∧ (-9000000 ≤ c.2.2 ∧ c.2.2 ≤ 9000000)) :
    Calls Try.prog 23 #[.slice (some ⟨blk, off, none⟩) l.length cap, .int .i64 j, .int .i64 0] w fun e w' => ∃ B, e = .returned (.tuple #[.slice (some ⟨B, 0, none⟩) l.length l.length, .int .i64 0]) ∧ w.heap.size ≤ B ∧ Filled w' B l.length 32 (sortC (l.map (mirrorC j))) ∧ Below w.heap.size w w' := by
  have hmf : ∀ (fn : Fn) (first cap : Array Value) (w : World), (Instr.makeFunc fn first cap).run Try.prog w = .ok (.func fn first cap) w := fun _ _ _ _ => rfl
  have hwj : withinI j 0 2 = 0 := by unfold withinI; rw [if_neg (by omega)]
  have hw1 : ∀ W, Calls Try.prog 53 #[.int .i64 j, .int .i64 0, .int .i64 2] W fun e w' => e = .returned (.int .i64 0) ∧ w' = W := fun W => by
    have := within_ok j 0 2 W
    rw [hwj] at this
    exact this
  have hw2 : ∀ W, Calls Try.prog 53 #[.int .i64 0, .int .i64 (-1000), .int .i64 1000] W fun e w' => e = .returned (.int .i64 0) ∧ w' = W := fun W => within_ok 0 (-1000) 1000 W
  obtain ⟨W, hW⟩ : ∃ W, W = ((w.alloc (.cells #[.int .i64 j] 3)).alloc (.cells #[.int .i64 0] 3)) := ⟨_, rfl⟩
  have b0 : W.cell? ⟨w.heap.size, 0, none⟩ = some (.int .i64 j) := by subst hW; go_simp
  have b1 : W.cell? ⟨w.heap.size + 1, 0, none⟩ = some (.int .i64 0) := by subst hW; go_simp
  have hBW : Below w.heap.size w W := by subst hW; exact ((Below.refl _ _).alloc (Nat.le_refl _) _).alloc (by simp) _
  have hs : w.heap.size < W.heap.size := by subst hW; simp; omega
  have hs1 : w.heap.size + 1 < W.heap.size := by subst hW; simp
  have hlW : RowAt W blk off l := fun i c h => by
    obtain ⟨r0, r1, r2⟩ := hl i c h
    exact ⟨by rw [hBW.cell hb]; exact r0, by rw [hBW.cell hb]; exact r1, by rw [hBW.cell hb]; exact r2⟩
  have hck := gridCheck_ok l blk off cap W.drew hlW (Nat.lt_trans hb hs) hn hfit hasc
  have hmov : ∀ W5, Below W.heap.size W W5 → Calls Try.prog 55 #[.slice (some ⟨blk, off, none⟩) l.length cap, .func (.func 60) #[] #[.pointer (some ⟨w.heap.size, 0, none⟩), .pointer (some ⟨w.heap.size + 1, 0, none⟩)]] W5 fun e w' => ∃ B, e = .returned (.tuple #[.slice (some ⟨B, 0, none⟩) l.length l.length, .int .i64 0]) ∧ w.heap.size ≤ B ∧ Filled w' B l.length 32 (sortC (l.map (mirrorC j))) ∧ Below w.heap.size w w' := fun W5 h5 => by
    have h5' : Below w.heap.size w W5 := hBW.trans (h5.mono hBW.size)
    refine (moved_mirror l blk off cap W5 (fun i c h => ?_) (Nat.lt_of_lt_of_le hb h5'.size) hn w.heap.size (w.heap.size + 1) (mirrorC j) (fun c hc W6 h6 => ?_) hfit2 hnd).mono ?_
    · obtain ⟨r0, r1, r2⟩ := hl i c h
      exact ⟨by rw [h5'.cell hb]; exact r0, by rw [h5'.cell hb]; exact r1, by rw [h5'.cell hb]; exact r2⟩
    · obtain ⟨k1, k2, k3⟩ := hbig c hc
      have hs5 : w.heap.size < W5.heap.size := Nat.lt_of_lt_of_le hs h5.size
      have hs6 : w.heap.size + 1 < W5.heap.size := Nat.lt_of_lt_of_le hs1 h5.size
      exact mirror1_ok j hj c.1 c.2.1 c.2.2 w.heap.size (w.heap.size + 1) W6 ((h6.cell (p := ⟨w.heap.size, 0, none⟩) hs5).trans ((h5.cell (p := ⟨w.heap.size, 0, none⟩) hs).trans b0))
        ((h6.cell (p := ⟨w.heap.size + 1, 0, none⟩) hs6).trans ((h5.cell (p := ⟨w.heap.size + 1, 0, none⟩) hs1).trans b1)) (Nat.lt_of_lt_of_le hs5 h6.size) (Nat.lt_of_lt_of_le hs6 h6.size) k1 k2 k3
    · rintro e w' ⟨B, rfl, hB, hF, hBe⟩
      exact ⟨B, rfl, Nat.le_trans h5'.size hB, hF, h5'.trans (hBe.mono h5'.size)⟩
  have hwz : withinI 0 (-1000) 1000 = 0 := by decide
  clear hfit2 hnd hbig hl hw1 hw2
  go_enter Try.func23, Try.ntmps23
  go_wp2
  rw [← hW]
  clear hW hfit hasc hlW hBW
  go_region_held3 (fun w' => w'.cell? ⟨w.heap.size, 0, none⟩ = some (.int .i64 j) ∧ w'.cell? ⟨w.heap.size + 1, 0, none⟩ = some (.int .i64 0)) (first | exact ⟨c0, c1⟩ | exact ⟨b0, b1⟩ | exact ⟨e0, e1⟩ | go_keep) (first
    | (go_at_call 41; refine hck.mono ?_; rintro e w2 ⟨rfl, hB2⟩; have c0 : w2.cell? ⟨w.heap.size, 0, none⟩ = some (.int .i64 j) := (hB2.cell (p := ⟨w.heap.size, 0, none⟩) hs).trans b0; have c1 : w2.cell? ⟨w.heap.size + 1, 0, none⟩ = some (.int .i64 0) := (hB2.cell (p := ⟨w.heap.size + 1, 0, none⟩) hs1).trans b1)
    | (go_at_call 53; refine (within_ok _ _ _ _).mono ?_; rintro e w3 ⟨rfl, rfl⟩; try simp only [hwj, hwz])
    | (go_at_call 40; refine (first3_ok 0 0 0 _ _ _ ?_ ?_ ?_).mono ?_; (go_simp); (go_simp); (go_simp); rintro e w4 ⟨rfl, rfl⟩))
  have hWe : Below W.heap.size W w3 := ⟨hB2.os, hB2.tape, hB2.output, hB2.size, hB2.block⟩
  have hWf := hWe.alloc hWe.size (.cells #[.int .i64 0, .int .i64 0, .int .i64 0] 27)
  have hm5 := hmov _ hWf
  have hor : orI 0 0 0 = 0 := by decide
  clear hB2 hWe hmov hck hwj hwz b0 b1 c0 c1
  all_goals (go_wp2_with (go_at_call 55; refine hm5.mono ?_; rintro e w7 ⟨B, rfl, hB7, hF7, hB8⟩))
  all_goals (go_ret2; exact ⟨B, rfl, hB7, hF7, hB8⟩)
end Go.Proofs
