import Derived.Test.YtpickbchpnbffaaGreatRefD
import Derived.Test.YtpickbchpnbffaaGreatRow
import Derived.Test.YtpickbchpnbffaaGreatDistP
import Derived.Test.YtpickbchpnbffaaGreatHas
import Derived.Test.YtpickbchpnbffaaGreatTurnX
import Derived.Test.YtpickbchpnbffaaGreatHeldF
import Derived.Test.YtpickbchpnbffaaGreatMovedX
import Derived.Test.YtpickbchpnbffaaGreatGrP
import Derived.Deep.AppendLies
import Derived.Deep.RegionHeld3
import Derived.Test.YtpickbchpnbffaaGreatInsR
section
/- The reference's Moved. -/
namespace Go.Proofs
open Go.RowKit
set_option maxHeartbeats 8000000
set_option maxRecDepth 1000000
theorem refMoved_ok (x y z bx by_ bz : Int) (w : World) (k1 : -9000000 ≤ x + bx ∧ x + bx ≤ 9000000) (k2 : -9000000 ≤ y + by_ ∧ y + by_ ≤ 9000000) (k3 : -9000000 ≤ z + bz ∧ z + bz ≤ 9000000) :
    Calls Tryz.prog 80 #[.agg #[.int .i64 x, .int .i64 y, .int .i64 z], .agg #[.int .i64 bx, .int .i64 by_, .int .i64 bz]] w fun e w' => e = .returned (.agg #[.int .i64 (x + bx), .int .i64 (y + by_), .int .i64 (z + bz)]) ∧ Below w.heap.size w w' := by
  have w1 := wrapS k1
  have w2 := wrapS k2
  have w3 := wrapS k3
  clear k1 k2 k3
  have hB : Below w.heap.size w ((w.alloc (.cells #[.int .i64 x, .int .i64 y, .int .i64 z] 34)).alloc (.cells #[.int .i64 bx, .int .i64 by_, .int .i64 bz] 34)) := ((Below.refl _ _).alloc (Nat.le_refl _) _).alloc (by simp) _
  go_enter Tryz.func80, Tryz.ntmps80
  go_wp2
  refine bodyPost_ret (results_cell_row rfl _ _ _ 34 #[.int .i64 (x + bx), .int .i64 (y + by_), .int .i64 (z + bz)] (0, 0) _ rfl ?_ Tryz.underlying34 rfl (by kernel_rfl)) rfl ?_
  · have := heap_alloc_new ((w.alloc (.cells #[.int .i64 x, .int .i64 y, .int .i64 z] 34)).alloc (.cells #[.int .i64 bx, .int .i64 by_, .int .i64 bz] 34)) (.cells #[.int .i64 (x + bx), .int .i64 (y + by_), .int .i64 (z + bz)] 34)
    have e : ((w.alloc (.cells #[.int .i64 x, .int .i64 y, .int .i64 z] 34)).alloc (.cells #[.int .i64 bx, .int .i64 by_, .int .i64 bz] 34)).heap.size = w.heap.size + 1 + 1 := by simp
    rw [e] at this
    exact this
  · exact ⟨rfl, hB.alloc (by simp; omega) _⟩
end Go.Proofs
end

section
/- SameCells of any two sets' slices. -/
namespace Go.Proofs
open Go.RowKit
set_option maxHeartbeats 8000000
set_option maxRecDepth 1000000
theorem sameSl (l m : List Cel) (v u : Value) (w : World) (hl : Sl w v l) (hm : Sl w u m) (hn : l.length ≤ 4096) :
    Calls Tryz.prog 14 #[v, u] w fun e w' => e = .returned (.bool (decide (l = m))) ∧ ∃ q, w' = w.drewN q := by
  by_cases hlen : l.length = m.length
  · cases l with
    | nil =>
      obtain rfl : m = [] := List.eq_nil_of_length_eq_zero hlen.symm
      obtain ⟨A, ca, rfl⟩ := hl.form
      obtain ⟨B, cb, rfl⟩ := hm.form
      clear hl hm hn hlen
      show Calls Tryz.prog 14 #[.slice A 0 ca, .slice B 0 cb] w fun e w' => e = .returned (.bool true) ∧ ∃ q, w' = w.drewN q
      go_enter Tryz.func14, Tryz.ntmps14
      go_wp2
      go_loopw [5] (fun i wr => i = .int .i64 0 ∧ wr = w) (fun _ _ => 0)
      case atStart => exact ⟨rfl, rfl⟩
      case round =>
        obtain ⟨rfl, rfl⟩ := hrel
        go_wp2
        go_ret
        exact ⟨rfl, 0, rfl⟩
    | cons h l =>
      rcases hl with ⟨_, h2⟩ | ⟨a, ca, rfl, ha⟩
      · cases h2
      rcases hm with ⟨_, rfl⟩ | ⟨b, cb, rfl, hb⟩
      · cases hlen
      obtain ⟨a1, a2, a3⟩ := ha (by simp)
      obtain ⟨b1, b2, b3⟩ := hb (by intro e; subst e; cases hlen)
      obtain ⟨ab, ao, sa⟩ := a
      obtain ⟨bb, bo, sb⟩ := b
      obtain rfl : sa = none := a1
      obtain rfl : sb = none := b1
      exact sameCells_ok (h :: l) m ab ao ca bb bo cb w a3 b3 hn
  · have hle : ¬ ((l.length : Int) = m.length) := by omega
    have hne : l ≠ m := fun e => hlen (by rw [e])
    rw [decide_eq_false hne]
    obtain ⟨A, ca, rfl⟩ := hl.form
    obtain ⟨B, cb, rfl⟩ := hm.form
    clear hl hm
    go_enter Tryz.func14, Tryz.ntmps14
    go_wp2
    all_goals go_ret
    all_goals (first | exact ⟨rfl, 0, rfl⟩ | (simp_all))
end Go.Proofs
end

section
/- The reference's Moved and Shift. -/
namespace Go.Proofs
open Go.Shelf Go.RowKit Go.Lib Go.Sort
set_option maxHeartbeats 8000000
set_option maxRecDepth 1000000

theorem refShift_ok (l : List Cel) (v : Value) (b : Cel) (w : World) (hl : Sl w v l) (hn : l.length ≤ 400000)
    (hbig : ∀ c ∈ l, (-9000000 ≤ c.1 + b.1 ∧ c.1 + b.1 ≤ 9000000) ∧ (-9000000 ≤ c.2.1 + b.2.1 ∧ c.2.1 + b.2.1 ≤ 9000000) ∧ (-9000000 ≤ c.2.2 + b.2.2 ∧ c.2.2 + b.2.2 ≤ 9000000)) :
    Calls Tryz.prog 60 #[v, .agg #[.int .i64 b.1, .int .i64 b.2.1, .int .i64 b.2.2]] w fun e w' => ∃ v', e = .returned v' ∧ Own w' w.heap.size v' (l.map (shiftC b)) ∧ Below w.heap.size w w' := by
  obtain ⟨bx, by_, bz⟩ := b
  dsimp only at hbig ⊢
  obtain ⟨W0, hW⟩ : ∃ W0, W0 = w.alloc (.cells #[.int .i64 bx, .int .i64 by_, .int .i64 bz] 34) := ⟨_, rfl⟩
  have d0 : W0.cell? ⟨w.heap.size, 0, none⟩ = some (.int .i64 bx) := by subst hW; go_simp
  have d1 : W0.cell? ⟨w.heap.size, 1, none⟩ = some (.int .i64 by_) := by subst hW; go_simp
  have d2 : W0.cell? ⟨w.heap.size, 2, none⟩ = some (.int .i64 bz) := by subst hW; go_simp
  have hK0 : Below w.heap.size w W0 := by subst hW; exact (Below.refl _ _).alloc (Nat.le_refl _) _
  have hlt : w.heap.size < W0.heap.size := by subst hW; simp
  replace hl := hl.below hK0
  obtain ⟨A, cap, rfl⟩ := hl.form
  go_enter Tryz.func60, Tryz.ntmps60
  go_wp2
  rw [← hW]
  clear hW
  go_loopw [5, 6] (fun s i wr => ∃ k : Nat, k ≤ l.length ∧ i = .int .i64 k ∧ Own wr W0.heap.size s ((l.take k).map (shiftC (bx, by_, bz))) ∧ Below W0.heap.size W0 wr) (fun _ i _ => l.length - (intOf i).toNat)
  case atStart => exact ⟨0, Nat.zero_le _, rfl, Own.nil _ _, Below.refl _ _⟩
  case round =>
    obtain ⟨k, hk, rfl, hown, hBel⟩ := hrel
    rename World => w1
    rcases Nat.lt_or_eq_of_le hk with hkn | rfl
    · obtain ⟨bk, o, x, y, z, rfl, -, hbk, hc, r0, r1, r2⟩ := hl.cells hkn
      obtain ⟨k1, k2, k3⟩ := hbig _ (List.mem_of_getElem? hc)
      dsimp only at k1 k2 k3
      have hft : (l.take (k + 1)).map (shiftC (bx, by_, bz)) = (l.take k).map (shiftC (bx, by_, bz)) ++ [(x + bx, y + by_, z + bz)] := by
        rw [List.take_add_one, hc]; simp [shiftC]
      have hlen : ((l.take k).map (shiftC (bx, by_, bz))).length ≤ 400000 := by rw [List.length_map, List.length_take]; omega
      have hmv := fun W => refMoved_ok x y z bx by_ bz W k1 k2 k3
      have Hft := Lib.hid hft
      have hsz := hBel.size
      have kS : ∀ w', Below W0.heap.size w1 w' → (w'.cell? ⟨bk, o + k * 3, none⟩ = some (.int .i64 x) ∧ w'.cell? ⟨bk, o + k * 3 + 1, none⟩ = some (.int .i64 y) ∧ w'.cell? ⟨bk, o + k * 3 + 2, none⟩ = some (.int .i64 z) ∧ w'.cell? ⟨w.heap.size, 0, none⟩ = some (.int .i64 bx) ∧ w'.cell? ⟨w.heap.size, 1, none⟩ = some (.int .i64 by_) ∧ w'.cell? ⟨w.heap.size, 2, none⟩ = some (.int .i64 bz)) := fun w' h => ⟨((hBel.trans h).cell (p := ⟨bk, _, none⟩) hbk).trans r0, ((hBel.trans h).cell (p := ⟨bk, _, none⟩) hbk).trans r1, ((hBel.trans h).cell (p := ⟨bk, _, none⟩) hbk).trans r2, ((hBel.trans h).cell (p := ⟨w.heap.size, 0, none⟩) hlt).trans d0, ((hBel.trans h).cell (p := ⟨w.heap.size, 1, none⟩) hlt).trans d1, ((hBel.trans h).cell (p := ⟨w.heap.size, 2, none⟩) hlt).trans d2⟩
      have hS1 := kS w1.drew (Below.refl _ _).drew
      have hX1 : Below w1.heap.size w1 w1.drew := (Below.refl _ _).drew
      clear hl hbig hc hft k1 k2 k3 d0 d1 d2 r0 r1 r2
      have hi0 : (0 : Int) ≤ k := by omega
      have hi1 : (k : Int) < l.length := by omega
      go_wp2
      go_region_held3 (fun w' => w'.cell? ⟨bk, o + k * 3, none⟩ = some (.int .i64 x) ∧ w'.cell? ⟨bk, o + k * 3 + 1, none⟩ = some (.int .i64 y) ∧ w'.cell? ⟨bk, o + k * 3 + 2, none⟩ = some (.int .i64 z) ∧ w'.cell? ⟨w.heap.size, 0, none⟩ = some (.int .i64 bx) ∧ w'.cell? ⟨w.heap.size, 1, none⟩ = some (.int .i64 by_) ∧ w'.cell? ⟨w.heap.size, 2, none⟩ = some (.int .i64 bz)) (first | exact hS1 | exact hS2 | exact hS3 | exact hS4) (first
        | (go_at_call 80; refine (hmv _).mono ?_; rintro e w2 ⟨rfl, hB2⟩; have hB12 := hX1.trans hB2; have hS2 := kS w2 (hB12.mono hsz); have hownA := (hown.keep hB12).alloc (.cells #[.int .i64 (x + bx), .int .i64 (y + by_), .int .i64 (z + bz)] 34); have hBa : Below W0.heap.size w1 (w2.alloc (.cells #[.int .i64 (x + bx), .int .i64 (y + by_), .int .i64 (z + bz)] 34)) := (hB12.mono hsz).alloc (Nat.le_trans hsz hB12.size) _; have hS3 := kS _ hBa)
        | (refine step_append_sl rfl _ _ rfl W0.heap.size (Nat.le_trans hsz hBa.size) _ _ rfl hownA _ [(x + bx, y + by_, z + bz)] rfl (.inr ⟨_, 1, rfl, row_one w2 (x + bx) (y + by_) (z + bz)⟩) (by simp) (by simp at hlen ⊢; omega) ?_; intro v1 w3 hown3 hB3; have hBb := hBa.trans hB3; have hS4 := kS w3 hBb))
      rename_i hHeld
      clear hHeld hS1 hS2 hS3 hS4 kS
      go_wp2
      exact ⟨⟨k + 1, hkn, rfl, by rw [Hft.out]; exact hown3, hBel.trans hBb⟩, by simp [intOf]; omega⟩
    · rw [List.take_length] at hown
      clear hl hbig
      go_wp2
      go_ret
      exact ⟨_, rfl, hown.lower hK0.size, hK0.trans (hBel.mono hK0.size)⟩
end Go.Proofs
end

section
/- The reference's Mirror. -/
namespace Go.Proofs
open Go.Shelf Go.RowKit Go.Lib Go.Sort
set_option maxHeartbeats 8000000
set_option maxRecDepth 1000000
def mirT (j : Nat) (t : Int) (c : Cel) : Cel := match j with
  | 0 => (2 * t - c.1, c.2.1, c.2.2)
  | 1 => (c.1, 2 * t - c.2.1, c.2.2)
  | _ => (c.1, c.2.1, 2 * t - c.2.2)
end Go.Proofs
end

section
/- grid.Mirror's closure, about any plane. -/
namespace Go.Proofs
open Go.RowKit
set_option maxHeartbeats 8000000
set_option maxRecDepth 1000000
end Go.Proofs
end
