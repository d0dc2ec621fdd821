/- (Box).volume; (Box).cells, the iterator over a box's cells. -/
import Derived.Test.YtllameiilljelaaFewR
import Derived.RangeFuncNested
import Derived.RangeFuncBound
import Derived.RangeFuncCalls
import Derived.RangeFuncLeaves
import Derived.RangeFuncBox
import Derived.Shelf.Abstract
import Derived.Shelf.RegionOpen
import Derived.WalkKit
import Derived.OwnWalkIn
import Derived.TacticsInMore
import Derived.LoopNIn
import Derived.LoopIn
namespace Go.Proofs
open Go.RowKit Go.Shelf
set_option maxHeartbeats 8000000
set_option maxRecDepth 1000000
attribute [local go_sem] Oper.semAt_some
/-- n whole numbers from a on. -/
def upFrom (a : Int) : Nat → List Int
  | 0 => []
  | n + 1 => a :: upFrom (a + 1) n
def rowZ (x y : Int) (z : Int) (k : Nat) : List Cel := (upFrom z k).map fun z => (x, y, z)
def rowY (x z : Int) (k : Nat) (y : Int) (m : Nat) : List Cel := (upFrom y m).flatMap fun y => rowZ x y z k
def rowX (y z : Int) (m k : Nat) (x : Int) (n : Nat) : List Cel := (upFrom x n).flatMap fun x => rowY x z k y m
theorem rowZ_succ (x y z : Int) (k : Nat) : rowZ x y z (k + 1) = (x, y, z) :: rowZ x y (z + 1) k := rfl
theorem rowY_succ (x z : Int) (k : Nat) (y : Int) (m : Nat) : rowY x z k y (m + 1) = rowZ x y z k ++ rowY x z k (y + 1) m := by simp [rowY, upFrom]
theorem rowX_succ (y z : Int) (m k : Nat) (x : Int) (n : Nat) : rowX y z m k x (n + 1) = rowY x z k y m ++ rowX y z m k (x + 1) n := by simp [rowX, upFrom]
/-- The cells of a box, by x, then y, then z. -/
def boxL (b : Cel × Cel) : List Cel := rowX b.1.2.1 b.1.2.2 (b.2.2.1 + 1 - b.1.2.1).toNat (b.2.2.2 + 1 - b.1.2.2).toNat b.1.1 (b.2.1 + 1 - b.1.1).toNat
def boxCells (b : Cel × Cel) : Array Value := #[.int .i64 b.1.1, .int .i64 b.1.2.1, .int .i64 b.1.2.2, .int .i64 b.2.1, .int .i64 b.2.2.1, .int .i64 b.2.2.2]
def celV (c : Cel) : Value := .agg #[.int .i64 c.1, .int .i64 c.2.1, .int .i64 c.2.2]
theorem cells1_in (F : Fence) (n : Nat) (h6 : F.fn 62) (hro : F.round = none) (hn : 1 ≤ n) (l Bn n₀ : Nat) (b : Cel × Cel) (h1 : Near b.1 1000) (h2 : Near b.2 1000) (hBn0 : Bn < n₀) (J Jx : List Cel → World → Prop)
    (hY : ∀ pre x W, J pre W → pre.length < (boxL b).length → YieldAt F (n - 1) Try.prog l #[celV x] W fun e W' =>
      (e = .returned (.bool true) ∧ J (pre ++ [x]) W' ∧ Below n₀ W W') ∨ (e = .returned (.bool false) ∧ Jx (pre ++ [x]) W'))
    (W : World) (hW : W.heap[Bn]? = some (.cells (boxCells b) 45 (0, 0))) (h0 : J [] W) :
    CallsIn F n Try.prog 62 #[.func (.yield l) #[] #[], .pointer (some ⟨Bn, 0, none⟩)] W fun e W' => (∃ v, e = .returned v) ∧
      ((∃ ys, ys = boxL b ∧ J ys W') ∨ (∃ pre, pre <+: boxL b ∧ Jx pre W')) := by
  obtain ⟨⟨lx, ly, lz⟩, ⟨ux, uy, uz⟩⟩ := b
  unfold Near at h1 h2
  unfold boxCells at hW
  dsimp only at h1 h2 hW
  have hL : boxL ((lx, ly, lz), (ux, uy, uz)) = rowX ly lz (uy + 1 - ly).toNat (uz + 1 - lz).toNat lx (ux + 1 - lx).toNat := rfl
  generalize boxL ((lx, ly, lz), (ux, uy, uz)) = xs at hY hL ⊢
  have hat : ∀ W', Below n₀ W W' → W'.heap[Bn]? = some (.cells #[.int .i64 lx, .int .i64 ly, .int .i64 lz, .int .i64 ux, .int .i64 uy, .int .i64 uz] 45 (0, 0)) := fun W' h => (h.block _ hBn0).trans hW
  have hcell : ∀ W', Below n₀ W W' → W'.cell? ⟨Bn, 0, none⟩ = some (.int .i64 lx) ∧ W'.cell? ⟨Bn, 1, none⟩ = some (.int .i64 ly) ∧ W'.cell? ⟨Bn, 2, none⟩ = some (.int .i64 lz) ∧ W'.cell? ⟨Bn, 3, none⟩ = some (.int .i64 ux) ∧ W'.cell? ⟨Bn, 4, none⟩ = some (.int .i64 uy) ∧ W'.cell? ⟨Bn, 5, none⟩ = some (.int .i64 uz) := fun W' h => by
    have zl := fun j => cell_of_row W' Bn j _ _ _ (hat W' h)
    have z0 := zl 0
    have z1 := zl 1
    have z2 := zl 2
    have z3 := zl 3
    have z4 := zl 4
    have z5 := zl 5
    simp at z0 z1 z2 z3 z4 z5
    exact ⟨z0, z1, z2, z3, z4, z5⟩
  clear hat hW
  have HL := Lib.hid hL
  clear hL
  obtain ⟨d0, d1, d2, d3, d4, d5⟩ := hcell W (Below.refl _ _)
  refine callsIn_of_wp Try.func62 rfl h6 ?_ hro
  simp only [Try.ntmps62, List.size_toArray, List.length_cons, List.length_nil, Nat.reduceAdd, Nat.reduceSub, Array.replicate_succ, Array.replicate_zero, List.push_toArray, List.append_toArray, List.nil_append, List.cons_append]
  gi_wp2
  gi_loopw [3] (fun p wr => ∃ (x : Int) (r : Nat) (pre : List Cel), p = .int .i64 x ∧ lx ≤ x ∧ x ≤ ux + 1 + (lx - ux - 1).toNat ∧ r = (ux + 1 - x).toNat ∧ xs = pre ++ rowX ly lz (uy + 1 - ly).toNat (uz + 1 - lz).toNat x r ∧ J pre wr ∧ Below n₀ W wr) (fun p _ => (ux + 1 - intOf p).toNat)
  case atStart => exact ⟨lx, _, [], rfl, by omega, by omega, rfl, HL.out, h0, Below.refl _ _⟩
  case round =>
    obtain ⟨x, r, pre, rfl, hx1, hx2, hr, hL, hJ, hB⟩ := hrel
    have HL1 := Lib.hid hL
    clear hL HL d0 d1 d2 d3 d4 d5 h0
    rename World => w1
    obtain ⟨d0, d1, d2, d3, d4, d5⟩ := hcell w1 hB
    cases r with
    | zero =>
      have hx : ¬ x ≤ ux := by omega
      clear hr
      gi_wp2
      go_end0
      exact ⟨⟨_, rfl⟩, .inl (by have := HL1.out; simp [rowX, upFrom] at this; rw [this]; exact hJ)⟩
    | succ r =>
      have hx : x ≤ ux := by omega
      have hr' : r = (ux + 1 - (x + 1)).toNat := by omega
      have wx := wrapL (n := x + 1) (by omega)
      have HL2 : Hid (xs = pre ++ (rowY x lz (uz + 1 - lz).toNat ly (uy + 1 - ly).toNat ++ rowX ly lz (uy + 1 - ly).toNat (uz + 1 - lz).toNat (x + 1) r)) := Lib.hid (by rw [HL1.out, rowX_succ])
      obtain ⟨RX, hRX⟩ : ∃ RX, RX = rowX ly lz (uy + 1 - ly).toNat (uz + 1 - lz).toNat (x + 1) r := ⟨_, rfl⟩
      rw [← hRX] at HL2
      have HRX := Lib.hid hRX
      clear hr HL1 hRX
      gi_wp2
      gi_loopw [4] (fun p wr => ∃ (y : Int) (s : Nat) (pre : List Cel), p = .int .i64 y ∧ ly ≤ y ∧ y ≤ uy + 1 + (ly - uy - 1).toNat ∧ s = (uy + 1 - y).toNat ∧ Hid (xs = pre ++ (rowY x lz (uz + 1 - lz).toNat y s ++ RX)) ∧ J pre wr ∧ Below n₀ W wr) (fun p _ => (uy + 1 - intOf p).toNat)
      case atStart => exact ⟨ly, _, pre, rfl, by omega, by omega, rfl, HL2, hJ, hB⟩
      case round =>
        obtain ⟨y, s, pre, rfl, hy1, hy2, hs, HL, hJ, hB⟩ := hrel
        clear HL2 d0 d1 d2 d3 d4 d5
        rename World => w2
        obtain ⟨d0, d1, d2, d3, d4, d5⟩ := hcell w2 hB
        cases s with
        | zero =>
          have hy : ¬ y ≤ uy := by omega
          clear hs
          gi_wp2
          go_roundw
          case rel => exact ⟨x + 1, r, pre, rfl, by omega, by omega, hr', by rw [HL.out, HRX.out]; simp [rowY, upFrom], hJ, hB⟩
          case measure => simp [intOf]; omega
        | succ s =>
          have hy : y ≤ uy := by omega
          have hs' : s = (uy + 1 - (y + 1)).toNat := by omega
          have wy := wrapL (n := y + 1) (by omega)
          have HL2 : Hid (xs = pre ++ (rowZ x y lz (uz + 1 - lz).toNat ++ (rowY x lz (uz + 1 - lz).toNat (y + 1) s ++ RX))) := Lib.hid (by rw [HL.out, rowY_succ, List.append_assoc])
          obtain ⟨RY, hRY⟩ : ∃ RY, RY = rowY x lz (uz + 1 - lz).toNat (y + 1) s ++ RX := ⟨_, rfl⟩
          rw [← hRY] at HL2
          have HRY := Lib.hid hRY
          clear hs HL hRY
          gi_wp2
          gi_loopw [5] (fun p wr => ∃ (z : Int) (t : Nat) (pre : List Cel), p = .int .i64 z ∧ lz ≤ z ∧ z ≤ uz + 1 + (lz - uz - 1).toNat ∧ t = (uz + 1 - z).toNat ∧ Hid (xs = pre ++ (rowZ x y z t ++ RY)) ∧ J pre wr ∧ Below n₀ W wr) (fun p _ => (uz + 1 - intOf p).toNat)
          case atStart => exact ⟨lz, _, pre, rfl, by omega, by omega, rfl, HL2, hJ, hB⟩
          case round =>
            obtain ⟨z, t, pre, rfl, hz1, hz2, ht, HL, hJ, hB⟩ := hrel
            clear HL2 d0 d1 d2 d3 d4 d5
            rename World => w3
            obtain ⟨d0, d1, d2, d3, d4, d5⟩ := hcell w3 hB
            cases t with
            | zero =>
              have hz : ¬ z ≤ uz := by omega
              clear ht
              gi_wp2
              go_roundw
              case rel => exact ⟨y + 1, s, pre, rfl, by omega, by omega, hs', Lib.hid (by rw [HL.out, HRY.out]; simp [rowZ, upFrom]), hJ, hB⟩
              case measure => simp [intOf]; omega
            | succ t =>
              have hz : z ≤ uz := by omega
              have ht' : t = (uz + 1 - (z + 1)).toNat := by omega
              have wz := wrapL (n := z + 1) (by omega)
              have HL2 : Hid (xs = (pre ++ [(x, y, z)]) ++ (rowZ x y (z + 1) t ++ RY)) := Lib.hid (by rw [HL.out, rowZ_succ]; simp)
              obtain ⟨fn, tmps, assign, body, hyd, hR⟩ := hY pre (x, y, z) w3 hJ (by rw [HL2.out]; simp)
              unfold celV at hyd
              dsimp only at hyd
              clear ht HL hY
              gi_wp2
              refine hR.mono ?_
              rintro e w4 (⟨rfl, hJ4, hk4⟩ | ⟨rfl, hJx4⟩)
              · have hB4 := hB.trans hk4
                clear hJ hB hk4 d0 d1 d2 d3 d4 d5 hyd hR
                gi_wp2
                go_roundw
                case rel => exact ⟨z + 1, t, _, rfl, by omega, by omega, ht', HL2, hJ4, hB4⟩
                case measure => simp [intOf]; omega
              · clear hJ hB d0 d1 d2 d3 d4 d5 hyd hR
                gi_wp2
                refine bodyPost_ret (results_none rfl _ _ _) rfl ?_
                exact ⟨⟨_, rfl⟩, .inr ⟨_, ⟨_, HL2.out.symm⟩, hJx4⟩⟩
theorem cells_stops (F : Fence) (n : Nat) (h6 : F.fn 62) (hro : F.round = none) (hn : 1 ≤ n) (Bn n₀ : Nat) (b : Cel × Cel) (h1 : Near b.1 1000) (h2 : Near b.2 1000) (hBn0 : Bn < n₀) (w : World) (hn₀ : n₀ ≤ w.heap.size)
    (hW : w.heap[Bn]? = some (.cells (boxCells b) 45 (0, 0))) :
    SeqStopsK F n Try.prog 62 #[.pointer (some ⟨Bn, 0, none⟩)] (fun x : Cel => #[celV x]) (Below n₀) (fun ys => ys = boxL b) (fun pre => pre <+: boxL b) (boxL b).length w := fun l J Jx W hW' _ _ hY h0 =>
  cells1_in F n h6 hro hn l Bn n₀ b h1 h2 hBn0 J Jx hY W ((hW'.block Bn (Nat.lt_of_lt_of_le hBn0 hn₀)).trans hW) h0
theorem cells_in (b : Cel × Cel) (w : World) :
    Calls Try.prog 47 #[boxV b] w fun e w' => e = .returned (.func (.func 62) #[] #[.pointer (some ⟨w.heap.size, 0, none⟩)]) ∧ w' = w.alloc (.cells (boxCells b) 45) := by
  obtain ⟨⟨lx, ly, lz⟩, ⟨ux, uy, uz⟩⟩ := b
  unfold boxV boxCells
  dsimp only
  go_enter Try.func47, Try.ntmps47
  go_wp2
  go_ret
  exact ⟨rfl, rfl⟩
end Go.Proofs
