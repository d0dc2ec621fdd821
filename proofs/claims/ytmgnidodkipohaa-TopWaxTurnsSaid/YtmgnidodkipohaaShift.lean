import Derived.Test.YtmgnidodkipohaaMoved
import Derived.Deep.RegionWith
namespace Go.Proofs
open Go.RowKit
set_option maxHeartbeats 4000000
set_option maxRecDepth 1000000
theorem shift1_ok (x y z bx by_ bz : Int) (p : Nat) (w : World) (h0 : w.cell? ⟨p, 0, none⟩ = some (.int .i64 bx)) (h1 : w.cell? ⟨p, 1, none⟩ = some (.int .i64 by_)) (h2 : w.cell? ⟨p, 2, none⟩ = some (.int .i64 bz)) (hp : p < w.heap.size)
    (k1 : -9000000 ≤ x + bx ∧ x + bx ≤ 9000000) (k2 : -9000000 ≤ y + by_ ∧ y + by_ ≤ 9000000) (k3 : -9000000 ≤ z + bz ∧ z + bz ≤ 9000000) :
    Calls Try.prog 62 #[.agg #[.int .i64 x, .int .i64 y, .int .i64 z], .pointer (some ⟨p, 0, none⟩)] w fun e w' => e = .returned (.agg #[.int .i64 (x + bx), .int .i64 (y + by_), .int .i64 (z + bz)]) ∧ Below w.heap.size w w' := by
  have w1 := wrapS k1
  have w2 := wrapS k2
  have w3 := wrapS k3
  clear k1 k2 k3
  have hne : p ≠ w.heap.size := by omega
  have hne1 : p ≠ w.heap.size + 1 := by omega
  go_enter Try.func62, Try.ntmps62
  go_wp2
  (try simp only [Exit.inBlock, Exit.then])
  refine bodyPost_ret (results_cell_row rfl _ _ _ 32 #[.int .i64 (x + bx), .int .i64 (y + by_), .int .i64 (z + bz)] (0, 0) _ rfl ?hg Try.underlying32 rfl (by kernel_rfl)) rfl ?_
  case hg =>
    have e : (w.alloc (.cells #[.int .i64 x, .int .i64 y, .int .i64 z] 32)).heap.size = w.heap.size + 1 := by simp
    have := heap_alloc_new (w.alloc (.cells #[.int .i64 x, .int .i64 y, .int .i64 z] 32)) (.cells #[.int .i64 (x + bx), .int .i64 (y + by_), .int .i64 (z + bz)] 32)
    rw [e] at this
    exact this
  refine ⟨rfl, ?_⟩
  exact ((Below.refl _ _).alloc (Nat.le_refl _) _).alloc (by simp) _
def shiftC (b c : Cel) : Cel := (c.1 + b.1, c.2.1 + b.2.1, c.2.2 + b.2.2)
theorem shift_ok (l : List Cel) (blk off cap : Nat) (b : Cel) (w : World) (hl : RowAt w blk off l) (hb : blk < w.heap.size) (hn : l.length ≤ 4096) (hfit : ∀ c ∈ l, vecI c 1000 = 0) (hasc : Asc l) (hv : vecI b 2000 = 0)
    (hfit2 : ∀ c ∈ l.map (shiftC b), vecI c 1000 = 0) (hnd : (l.map (shiftC b)).Nodup) (hbig : ∀ c ∈ l, (-9000000 ≤ c.1 + b.1 ∧ c.1 + b.1 ≤ 9000000) ∧ (-9000000 ≤ c.2.1 + b.2.1 ∧ c.2.1 + b.2.1 ≤ 9000000) ∧ (-9000000 ≤ c.2.2 + b.2.2 ∧ c.2.2 + b.2.2 ≤ 9000000)) :
    Calls Try.prog 24 #[.slice (some ⟨blk, off, none⟩) l.length cap, .agg #[.int .i64 b.1, .int .i64 b.2.1, .int .i64 b.2.2]] w fun e w' => ∃ B, e = .returned (.tuple #[.slice (some ⟨B, 0, none⟩) l.length l.length, .int .i64 0]) ∧ w.heap.size ≤ B ∧ Filled w' B l.length 32 (sortC (l.map (shiftC b))) ∧ Below w.heap.size w w' := by
  obtain ⟨bx, by_, bz⟩ := b
  dsimp only at hbig ⊢
  have hmf : ∀ (fn : Fn) (first cap : Array Value) (w : World), (Instr.makeFunc fn first cap).run Try.prog w = .ok (.func fn first cap) w := fun _ _ _ _ => rfl
  have hcv : ∀ W, Calls Try.prog 61 #[.agg #[.int .i64 bx, .int .i64 by_, .int .i64 bz], .int .i64 2000] W fun e w' => e = .returned (.int .i64 0) ∧ Below W.heap.size W w' := fun W => by
    have := checkVector_ok bx by_ bz 2000 (by decide) W
    rw [hv] at this
    refine this.mono ?_
    rintro e w' ⟨h, q, os, rfl⟩
    exact ⟨h, below_grow _ _ _⟩
  obtain ⟨W, hW⟩ : ∃ W, W = (w.alloc (.cells #[.int .i64 bx, .int .i64 by_, .int .i64 bz] 32)) := ⟨_, rfl⟩
  have b0 : W.cell? ⟨w.heap.size, 0, none⟩ = some (.int .i64 bx) := by subst hW; go_simp
  have b1 : W.cell? ⟨w.heap.size, 1, none⟩ = some (.int .i64 by_) := by subst hW; go_simp
  have b2 : W.cell? ⟨w.heap.size, 2, none⟩ = some (.int .i64 bz) := by subst hW; go_simp
  have hBW : Below w.heap.size w W := by subst hW; exact (Below.refl _ _).alloc (Nat.le_refl _) _
  have hs : w.heap.size < W.heap.size := by subst hW; simp
  have hlW : RowAt W blk off l := fun i c h => by
    obtain ⟨r0, r1, r2⟩ := hl i c h
    exact ⟨by rw [hBW.cell hb]; exact r0, by rw [hBW.cell hb]; exact r1, by rw [hBW.cell hb]; exact r2⟩
  have hck := gridCheck_ok l blk off cap W.drew hlW (Nat.lt_trans hb hs) hn hfit hasc
  have hmov : ∀ W5, Below W.heap.size W W5 → Calls Try.prog 55 #[.slice (some ⟨blk, off, none⟩) l.length cap, .func (.func 62) #[] #[.pointer (some ⟨w.heap.size, 0, none⟩)]] W5 fun e w' => ∃ B, e = .returned (.tuple #[.slice (some ⟨B, 0, none⟩) l.length l.length, .int .i64 0]) ∧ w.heap.size ≤ B ∧ Filled w' B l.length 32 (sortC (l.map (shiftC (bx, by_, bz)))) ∧ Below w.heap.size w w' := fun W5 h5 => by
    have h5' : Below w.heap.size w W5 := hBW.trans (h5.mono hBW.size)
    refine (moved_shift l blk off cap W5 (fun i c h => ?_) (Nat.lt_of_lt_of_le hb h5'.size) hn w.heap.size (shiftC (bx, by_, bz)) (fun c hc W6 h6 => ?_) hfit2 hnd).mono ?_
    · obtain ⟨r0, r1, r2⟩ := hl i c h
      exact ⟨by rw [h5'.cell hb]; exact r0, by rw [h5'.cell hb]; exact r1, by rw [h5'.cell hb]; exact r2⟩
    · obtain ⟨k1, k2, k3⟩ := hbig c hc
      have hs5 : w.heap.size < W5.heap.size := Nat.lt_of_lt_of_le hs h5.size
      exact shift1_ok c.1 c.2.1 c.2.2 bx by_ bz w.heap.size W6 ((h6.cell (p := ⟨w.heap.size, 0, none⟩) hs5).trans ((h5.cell (p := ⟨w.heap.size, 0, none⟩) hs).trans b0))
        ((h6.cell (p := ⟨w.heap.size, 1, none⟩) hs5).trans ((h5.cell (p := ⟨w.heap.size, 1, none⟩) hs).trans b1)) ((h6.cell (p := ⟨w.heap.size, 2, none⟩) hs5).trans ((h5.cell (p := ⟨w.heap.size, 2, none⟩) hs).trans b2)) (Nat.lt_of_lt_of_le hs5 h6.size) k1 k2 k3
    · rintro e w' ⟨B, rfl, hB, hF, hBe⟩
      exact ⟨B, rfl, Nat.le_trans h5'.size hB, hF, h5'.trans (hBe.mono h5'.size)⟩
  clear hfit2 hnd hbig hv hl
  go_enter Try.func24, Try.ntmps24
  go_wp2
  rw [← hW]
  clear hW hfit hasc hlW hBW
  go_region_with (first
    | (go_at_call 41; go_loud (refine hck.mono ?_; rintro e w2 ⟨rfl, hB2⟩; have c0 : w2.cell? ⟨w.heap.size, 0, none⟩ = some (.int .i64 bx) := (hB2.cell (p := ⟨w.heap.size, 0, none⟩) hs).trans b0; have c1 : w2.cell? ⟨w.heap.size, 1, none⟩ = some (.int .i64 by_) := (hB2.cell (p := ⟨w.heap.size, 1, none⟩) hs).trans b1; have c2 : w2.cell? ⟨w.heap.size, 2, none⟩ = some (.int .i64 bz) := (hB2.cell (p := ⟨w.heap.size, 2, none⟩) hs).trans b2))
    | (go_at_call 61; refine (hcv _).mono ?_; rintro e w3 ⟨rfl, hB3⟩)
    | (go_at_call 40; refine (first2_ok 0 0 _ _ _ ?_ ?_).mono ?_; (go_simp); (go_simp); rintro e w4 ⟨rfl, rfl⟩))
  all_goals (have hWe : Below W.heap.size W w2 := ⟨hB2.os, hB2.tape, hB2.output, hB2.size, hB2.block⟩; have hWf := (hWe.trans (hB3.mono hWe.size)).alloc (Nat.le_trans hWe.size hB3.size) (.cells #[.int .i64 0, .int .i64 0] 27); have hm5 := hmov _ hWf; clear hB2 hB3 hWe hmov hck hcv b0 b1 b2 c0 c1 c2)
  all_goals (go_wp2_with (go_at_call 55; refine hm5.mono ?_; rintro e w7 ⟨B, rfl, hB7, hF7, hB8⟩))
  all_goals (go_ret2; exact ⟨B, rfl, hB7, hF7, hB8⟩)
end Go.Proofs
