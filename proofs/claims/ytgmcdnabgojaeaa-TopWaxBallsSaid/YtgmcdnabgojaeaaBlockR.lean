/- The reference's Block, of a box with cells. -/
import Derived.Test.YtgmcdnabgojaeaaBoxVol
import Derived.Test.YtgmcdnabgojaeaaUnP
import Derived.Test.YtgmcdnabgojaeaaSplit
namespace Go.Proofs
open Go.RowKit
set_option maxHeartbeats 8000000
set_option maxRecDepth 1000000
theorem upFrom_step {a u : Int} (h : a ≤ u) : upFrom a (u + 1 - a).toNat = a :: upFrom (a + 1) (u + 1 - (a + 1)).toNat := by
  have e : (u + 1 - a).toNat = (u + 1 - (a + 1)).toNat + 1 := by omega
  rw [e]
  rfl
theorem upFrom_end {a u : Int} (h : ¬ a ≤ u) : upFrom a (u + 1 - a).toNat = [] := by
  have e : (u + 1 - a).toNat = 0 := by omega
  rw [e]
  rfl
theorem refBlock_ok (b : Cel × Cel) (h1 : Near b.1 1000) (h2 : Near b.2 1000) (hlen : (boxL b).length ≤ 400000) (w : World) :
    Calls Try.prog 15 #[boxV b] w fun e w' => ∃ v, e = .returned v ∧ Own w' w.heap.size v (boxL b) ∧ Below w.heap.size w w' := by
  obtain ⟨⟨lx, ly, lz⟩, ⟨ux, uy, uz⟩⟩ := b
  have hL : boxL ((lx, ly, lz), (ux, uy, uz)) = rowX ly lz (uy + 1 - ly).toNat (uz + 1 - lz).toNat lx (ux + 1 - lx).toNat := rfl
  generalize boxL ((lx, ly, lz), (ux, uy, uz)) = xs at hL hlen ⊢
  unfold Near at h1 h2
  dsimp only at h1 h2
  unfold boxV
  dsimp only
  obtain ⟨W, hW⟩ : ∃ W, W = w.alloc (.cells #[.int .i64 lx, .int .i64 ly, .int .i64 lz, .int .i64 ux, .int .i64 uy, .int .i64 uz] 34) := ⟨_, rfl⟩
  have hBW : Below w.heap.size w W := by subst hW; exact (Below.refl _ _).alloc (Nat.le_refl _) _
  have d0 : W.cell? ⟨w.heap.size, 0, none⟩ = some (.int .i64 lx) := by subst hW; go_simp
  have d1 : W.cell? ⟨w.heap.size, 1, none⟩ = some (.int .i64 ly) := by subst hW; go_simp
  have d2 : W.cell? ⟨w.heap.size, 2, none⟩ = some (.int .i64 lz) := by subst hW; go_simp
  have d3 : W.cell? ⟨w.heap.size, 3, none⟩ = some (.int .i64 ux) := by subst hW; go_simp
  have d4 : W.cell? ⟨w.heap.size, 4, none⟩ = some (.int .i64 uy) := by subst hW; go_simp
  have d5 : W.cell? ⟨w.heap.size, 5, none⟩ = some (.int .i64 uz) := by subst hW; go_simp
  have hlt : w.heap.size < W.heap.size := by subst hW; simp
  have kk : ∀ W', Below W.heap.size W W' → W'.cell? ⟨w.heap.size, 1, none⟩ = some (.int .i64 ly) ∧ W'.cell? ⟨w.heap.size, 2, none⟩ = some (.int .i64 lz) ∧ W'.cell? ⟨w.heap.size, 3, none⟩ = some (.int .i64 ux) ∧ W'.cell? ⟨w.heap.size, 4, none⟩ = some (.int .i64 uy) ∧ W'.cell? ⟨w.heap.size, 5, none⟩ = some (.int .i64 uz) := fun W' h =>
    ⟨(h.cell (p := ⟨w.heap.size, 1, none⟩) hlt).trans d1, (h.cell (p := ⟨w.heap.size, 2, none⟩) hlt).trans d2, (h.cell (p := ⟨w.heap.size, 3, none⟩) hlt).trans d3, (h.cell (p := ⟨w.heap.size, 4, none⟩) hlt).trans d4, (h.cell (p := ⟨w.heap.size, 5, none⟩) hlt).trans d5⟩
  go_enter Try.func15, Try.ntmps15
  go_upto_region 2 with fail
  rw [← hW]
  clear hW
  go_wp2
  have HL := Lib.hid hL
  clear hL d1 d2 d3 d4 d5 d0
  go_loopw [3, 4] (fun s i wr => ∃ (x : Int) (out : List Cel), lx ≤ x ∧ (x ≤ ux + 1 ∨ x = lx) ∧ i = .int .i64 x ∧ Own wr W.heap.size s out ∧ Below W.heap.size W wr ∧ xs = out ++ rowX ly lz (uy + 1 - ly).toNat (uz + 1 - lz).toNat x (ux + 1 - x).toNat) (fun _ i _ => (ux + 1 - intOf i).toNat)
  case atStart => exact ⟨lx, [], Int.le_refl _, .inr rfl, rfl, Own.nil _ _, Below.refl _ _, HL.out⟩
  case round =>
    obtain ⟨x, out, hx0, hx1, rfl, hown, hBel, hxs⟩ := hrel
    rename World => w1
    obtain ⟨k1, k2, k3, k4, k5⟩ := kk w1 hBel
    by_cases hx : x ≤ ux
    · have hs : rowX ly lz (uy + 1 - ly).toNat (uz + 1 - lz).toNat x (ux + 1 - x).toNat = rowY x lz (uz + 1 - lz).toNat ly (uy + 1 - ly).toNat ++ rowX ly lz (uy + 1 - ly).toNat (uz + 1 - lz).toNat (x + 1) (ux + 1 - (x + 1)).toNat := by
        unfold rowX
        rw [upFrom_step hx]
        rfl
      rw [hs] at hxs
      obtain ⟨R, hR⟩ : ∃ R, rowX ly lz (uy + 1 - ly).toNat (uz + 1 - lz).toNat (x + 1) (ux + 1 - (x + 1)).toNat = R := ⟨_, rfl⟩
      rw [hR] at hxs
      have HR := Lib.hid hR
      have HX := Lib.hid hxs
      clear hs hR hxs
      go_wp2
      go_loopw [3, 5] (fun s i wr => ∃ (y : Int) (out : List Cel), ly ≤ y ∧ (y ≤ uy + 1 ∨ y = ly) ∧ i = .int .i64 y ∧ Own wr W.heap.size s out ∧ Below W.heap.size W wr ∧ xs = out ++ (rowY x lz (uz + 1 - lz).toNat y (uy + 1 - y).toNat ++ R)) (fun _ i _ => (uy + 1 - intOf i).toNat)
      case atStart => exact ⟨ly, out, Int.le_refl _, .inr rfl, rfl, hown, hBel, HX.out⟩
      case round =>
        obtain ⟨y, out2, hy0, hy1, rfl, hown2, hBel2, hxs2⟩ := hrel
        rename World => w2
        obtain ⟨k1, k2, k3, k4, k5⟩ := kk w2 hBel2
        clear hown hBel HX
        by_cases hy : y ≤ uy
        · have hs : rowY x lz (uz + 1 - lz).toNat y (uy + 1 - y).toNat = rowZ x y lz (uz + 1 - lz).toNat ++ rowY x lz (uz + 1 - lz).toNat (y + 1) (uy + 1 - (y + 1)).toNat := by
            unfold rowY
            rw [upFrom_step hy]
            rfl
          rw [hs, List.append_assoc] at hxs2
          obtain ⟨R2, hR2⟩ : ∃ R2, rowY x lz (uz + 1 - lz).toNat (y + 1) (uy + 1 - (y + 1)).toNat ++ R = R2 := ⟨_, rfl⟩
          rw [hR2] at hxs2
          have HR2 := Lib.hid hR2
          have HX2 := Lib.hid hxs2
          clear hs hR2 hxs2
          go_wp2
          go_loopw [3, 6] (fun s i wr => ∃ (z : Int) (out : List Cel), lz ≤ z ∧ (z ≤ uz + 1 ∨ z = lz) ∧ i = .int .i64 z ∧ Own wr W.heap.size s out ∧ Below W.heap.size W wr ∧ xs = out ++ (rowZ x y z (uz + 1 - z).toNat ++ R2)) (fun _ i _ => (uz + 1 - intOf i).toNat)
          case atStart => exact ⟨lz, out2, Int.le_refl _, .inr rfl, rfl, hown2, hBel2, HX2.out⟩
          case round =>
            obtain ⟨z, out3, hz0, hz1, rfl, hown3, hBel3, hxs3⟩ := hrel
            rename World => w3
            obtain ⟨k1, k2, k3, k4, k5⟩ := kk w3 hBel3
            clear hown2 hBel2 HX2
            by_cases hz : z ≤ uz
            · have hs : rowZ x y z (uz + 1 - z).toNat = (x, y, z) :: rowZ x y (z + 1) (uz + 1 - (z + 1)).toNat := by
                unfold rowZ
                rw [upFrom_step hz]
                rfl
              rw [hs] at hxs3
              have hl3 : out3.length ≤ 400000 := by
                rw [hxs3, List.length_append] at hlen
                omega
              have e : xs = (out3 ++ [(x, y, z)]) ++ (rowZ x y (z + 1) (uz + 1 - (z + 1)).toNat ++ R2) := by
                rw [hxs3]
                simp
              have HX3 := Lib.hid e
              have hown4 := hown3.alloc (.cells #[.int .i64 x, .int .i64 y, .int .i64 z] 32)
              have hBa : Below W.heap.size W (w3.alloc (.cells #[.int .i64 x, .int .i64 y, .int .i64 z] 32)) := hBel3.alloc hBel3.size _
              clear hs hxs3 e
              go_wp2_with (at_builtin; refine wpList_append_sl rfl _ _ rfl W.heap.size ?cE _ _ rfl hown4 _ [(x, y, z)] rfl (.inr ⟨_, 1, rfl, row_one w3 x y z⟩) ?cC ?_)
              case cC => simp; omega
              case cE => exact hBa.size
              intro v1 w4 hown5 hB4
              go_wp2
              exact ⟨⟨z + 1, out3 ++ [(x, y, z)], by omega, .inl (by omega), rfl, hown5, hBa.trans hB4, HX3.out⟩, by simp [intOf]; omega⟩
            · have hs : rowZ x y z (uz + 1 - z).toNat = [] := by
                unfold rowZ
                rw [upFrom_end hz]
                rfl
              rw [hs, List.nil_append, ← HR2.out] at hxs3
              have HX3 := Lib.hid hxs3
              clear hs hxs3
              go_wp2
              exact ⟨⟨y + 1, out3, by omega, .inl (by omega), rfl, hown3, hBel3, HX3.out⟩, by simp [intOf]; omega⟩
        · have hs : rowY x lz (uz + 1 - lz).toNat y (uy + 1 - y).toNat = [] := by
            unfold rowY
            rw [upFrom_end hy]
            rfl
          rw [hs, List.nil_append, ← HR.out] at hxs2
          have HX2 := Lib.hid hxs2
          clear hs hxs2
          go_wp2
          exact ⟨⟨x + 1, out2, by omega, .inl (by omega), rfl, hown2, hBel2, HX2.out⟩, by simp [intOf]; omega⟩
    · have hs : rowX ly lz (uy + 1 - ly).toNat (uz + 1 - lz).toNat x (ux + 1 - x).toNat = [] := by
        unfold rowX
        rw [upFrom_end hx]
        rfl
      rw [hs, List.append_nil] at hxs
      have HX := Lib.hid hxs
      clear hs hxs
      go_wp2
      go_ret
      exact ⟨_, rfl, by rw [HX.out]; exact hown.mono hBW.size, hBW.trans (hBel.mono hBW.size)⟩
end Go.Proofs
