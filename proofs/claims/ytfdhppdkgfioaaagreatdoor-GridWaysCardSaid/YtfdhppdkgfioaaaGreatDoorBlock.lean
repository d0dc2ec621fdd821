import Derived.Test.YtfdhppdkgfioaaaGreatDoorCheckG
import Derived.RangeFuncNested
import Derived.RangeFuncBound
import Derived.RangeFuncCalls
import Derived.RangeFuncLeaves
import Derived.RangeFuncBox
import Derived.Shelf.Abstract
import Derived.Shelf.RegionOpen
import Derived.WalkKit
import Derived.OwnWalkIn
import Derived.TacticsInMore
import Derived.LoopNIn
import Derived.LoopIn
import Derived.Maps.AppendAt
import Derived.Test.YtfdhppdkgfioaaaGreatDoorInsP
import Derived.Deep.RegionHeld3
section
/- (Box).volume; (Box).cells, the iterator over a box's cells. -/
namespace Go.Proofs
open Go.RowKit Go.Shelf
set_option maxHeartbeats 8000000
set_option maxRecDepth 1000000
attribute [local go_sem] Oper.semAt_some
/-- n whole numbers from a on. -/
def upFrom (a : Int) : Nat → List Int
  | 0 => []
  | n + 1 => a :: upFrom (a + 1) n
def rowZ (x y : Int) (z : Int) (k : Nat) : List Cel := (upFrom z k).map fun z => (x, y, z)
def rowY (x z : Int) (k : Nat) (y : Int) (m : Nat) : List Cel := (upFrom y m).flatMap fun y => rowZ x y z k
def rowX (y z : Int) (m k : Nat) (x : Int) (n : Nat) : List Cel := (upFrom x n).flatMap fun x => rowY x z k y m
theorem rowZ_succ (x y z : Int) (k : Nat) : rowZ x y z (k + 1) = (x, y, z) :: rowZ x y (z + 1) k := rfl
theorem rowY_succ (x z : Int) (k : Nat) (y : Int) (m : Nat) : rowY x z k y (m + 1) = rowZ x y z k ++ rowY x z k (y + 1) m := by simp [rowY, upFrom]
theorem rowX_succ (y z : Int) (m k : Nat) (x : Int) (n : Nat) : rowX y z m k x (n + 1) = rowY x z k y m ++ rowX y z m k (x + 1) n := by simp [rowX, upFrom]
/-- The cells of a box, by x, then y, then z. -/
def boxL (b : Cel × Cel) : List Cel := rowX b.1.2.1 b.1.2.2 (b.2.2.1 + 1 - b.1.2.1).toNat (b.2.2.2 + 1 - b.1.2.2).toNat b.1.1 (b.2.1 + 1 - b.1.1).toNat
def boxCells (b : Cel × Cel) : Array Value := #[.int .i64 b.1.1, .int .i64 b.1.2.1, .int .i64 b.1.2.2, .int .i64 b.2.1, .int .i64 b.2.2.1, .int .i64 b.2.2.2]
def celV (c : Cel) : Value := .agg #[.int .i64 c.1, .int .i64 c.2.1, .int .i64 c.2.2]
theorem cells1_in (F : Fence) (n : Nat) (h6 : F.fn 122) (hro : F.round = none) (hn : 1 ≤ n) (l Bn n₀ : Nat) (b : Cel × Cel) (h1 : Near b.1 1000) (h2 : Near b.2 1000) (hBn0 : Bn < n₀) (J Jx : List Cel → World → Prop)
    (hY : ∀ pre x W, J pre W → pre.length < (boxL b).length → YieldAt F (n - 1) Tryz.prog l #[celV x] W fun e W' =>
      (e = .returned (.bool true) ∧ J (pre ++ [x]) W' ∧ Below n₀ W W') ∨ (e = .returned (.bool false) ∧ Jx (pre ++ [x]) W'))
    (W : World) (hW : W.heap[Bn]? = some (.cells (boxCells b) 51 (0, 0))) (h0 : J [] W) :
    CallsIn F n Tryz.prog 122 #[.func (.yield l) #[] #[], .pointer (some ⟨Bn, 0, none⟩)] W fun e W' => (∃ v, e = .returned v) ∧
      ((∃ ys, ys = boxL b ∧ J ys W') ∨ (∃ pre, pre <+: boxL b ∧ Jx pre W')) := by
  obtain ⟨⟨lx, ly, lz⟩, ⟨ux, uy, uz⟩⟩ := b
  unfold Near at h1 h2
  unfold boxCells at hW
  dsimp only at h1 h2 hW
  have hL : boxL ((lx, ly, lz), (ux, uy, uz)) = rowX ly lz (uy + 1 - ly).toNat (uz + 1 - lz).toNat lx (ux + 1 - lx).toNat := rfl
  generalize boxL ((lx, ly, lz), (ux, uy, uz)) = xs at hY hL ⊢
  have hat : ∀ W', Below n₀ W W' → W'.heap[Bn]? = some (.cells #[.int .i64 lx, .int .i64 ly, .int .i64 lz, .int .i64 ux, .int .i64 uy, .int .i64 uz] 51 (0, 0)) := fun W' h => (h.block _ hBn0).trans hW
  have hcell : ∀ W', Below n₀ W W' → W'.cell? ⟨Bn, 0, none⟩ = some (.int .i64 lx) ∧ W'.cell? ⟨Bn, 1, none⟩ = some (.int .i64 ly) ∧ W'.cell? ⟨Bn, 2, none⟩ = some (.int .i64 lz) ∧ W'.cell? ⟨Bn, 3, none⟩ = some (.int .i64 ux) ∧ W'.cell? ⟨Bn, 4, none⟩ = some (.int .i64 uy) ∧ W'.cell? ⟨Bn, 5, none⟩ = some (.int .i64 uz) := fun W' h => by
    have zl := fun j => cell_of_row W' Bn j _ _ _ (hat W' h)
    have z0 := zl 0
    have z1 := zl 1
    have z2 := zl 2
    have z3 := zl 3
    have z4 := zl 4
    have z5 := zl 5
    simp at z0 z1 z2 z3 z4 z5
    exact ⟨z0, z1, z2, z3, z4, z5⟩
  clear hat hW
  have HL := Lib.hid hL
  clear hL
  obtain ⟨d0, d1, d2, d3, d4, d5⟩ := hcell W (Below.refl _ _)
  refine callsIn_of_wp Tryz.func122 rfl h6 ?_ hro
  simp only [Tryz.ntmps122, List.size_toArray, List.length_cons, List.length_nil, Nat.reduceAdd, Nat.reduceSub, Array.replicate_succ, Array.replicate_zero, List.push_toArray, List.append_toArray, List.nil_append, List.cons_append]
  gi_wp2
  gi_loopw [3] (fun p wr => ∃ (x : Int) (r : Nat) (pre : List Cel), p = .int .i64 x ∧ lx ≤ x ∧ x ≤ ux + 1 + (lx - ux - 1).toNat ∧ r = (ux + 1 - x).toNat ∧ xs = pre ++ rowX ly lz (uy + 1 - ly).toNat (uz + 1 - lz).toNat x r ∧ J pre wr ∧ Below n₀ W wr) (fun p _ => (ux + 1 - intOf p).toNat)
  case atStart => exact ⟨lx, _, [], rfl, by omega, by omega, rfl, HL.out, h0, Below.refl _ _⟩
  case round =>
    obtain ⟨x, r, pre, rfl, hx1, hx2, hr, hL, hJ, hB⟩ := hrel
    have HL1 := Lib.hid hL
    clear hL HL d0 d1 d2 d3 d4 d5 h0
    rename World => w1
    obtain ⟨d0, d1, d2, d3, d4, d5⟩ := hcell w1 hB
    cases r with
    | zero =>
      have hx : ¬ x ≤ ux := by omega
      clear hr
      gi_wp2
      go_end0
      exact ⟨⟨_, rfl⟩, .inl (by have := HL1.out; simp [rowX, upFrom] at this; rw [this]; exact hJ)⟩
    | succ r =>
      have hx : x ≤ ux := by omega
      have hr' : r = (ux + 1 - (x + 1)).toNat := by omega
      have wx := wrapL (n := x + 1) (by omega)
      have HL2 : Hid (xs = pre ++ (rowY x lz (uz + 1 - lz).toNat ly (uy + 1 - ly).toNat ++ rowX ly lz (uy + 1 - ly).toNat (uz + 1 - lz).toNat (x + 1) r)) := Lib.hid (by rw [HL1.out, rowX_succ])
      obtain ⟨RX, hRX⟩ : ∃ RX, RX = rowX ly lz (uy + 1 - ly).toNat (uz + 1 - lz).toNat (x + 1) r := ⟨_, rfl⟩
      rw [← hRX] at HL2
      have HRX := Lib.hid hRX
      clear hr HL1 hRX
      gi_wp2
      gi_loopw [4] (fun p wr => ∃ (y : Int) (s : Nat) (pre : List Cel), p = .int .i64 y ∧ ly ≤ y ∧ y ≤ uy + 1 + (ly - uy - 1).toNat ∧ s = (uy + 1 - y).toNat ∧ Hid (xs = pre ++ (rowY x lz (uz + 1 - lz).toNat y s ++ RX)) ∧ J pre wr ∧ Below n₀ W wr) (fun p _ => (uy + 1 - intOf p).toNat)
      case atStart => exact ⟨ly, _, pre, rfl, by omega, by omega, rfl, HL2, hJ, hB⟩
      case round =>
        obtain ⟨y, s, pre, rfl, hy1, hy2, hs, HL, hJ, hB⟩ := hrel
        clear HL2 d0 d1 d2 d3 d4 d5
        rename World => w2
        obtain ⟨d0, d1, d2, d3, d4, d5⟩ := hcell w2 hB
        cases s with
        | zero =>
          have hy : ¬ y ≤ uy := by omega
          clear hs
          gi_wp2
          go_roundw
          case rel => exact ⟨x + 1, r, pre, rfl, by omega, by omega, hr', by rw [HL.out, HRX.out]; simp [rowY, upFrom], hJ, hB⟩
          case measure => simp [intOf]; omega
        | succ s =>
          have hy : y ≤ uy := by omega
          have hs' : s = (uy + 1 - (y + 1)).toNat := by omega
          have wy := wrapL (n := y + 1) (by omega)
          have HL2 : Hid (xs = pre ++ (rowZ x y lz (uz + 1 - lz).toNat ++ (rowY x lz (uz + 1 - lz).toNat (y + 1) s ++ RX))) := Lib.hid (by rw [HL.out, rowY_succ, List.append_assoc])
          obtain ⟨RY, hRY⟩ : ∃ RY, RY = rowY x lz (uz + 1 - lz).toNat (y + 1) s ++ RX := ⟨_, rfl⟩
          rw [← hRY] at HL2
          have HRY := Lib.hid hRY
          clear hs HL hRY
          gi_wp2
          gi_loopw [5] (fun p wr => ∃ (z : Int) (t : Nat) (pre : List Cel), p = .int .i64 z ∧ lz ≤ z ∧ z ≤ uz + 1 + (lz - uz - 1).toNat ∧ t = (uz + 1 - z).toNat ∧ Hid (xs = pre ++ (rowZ x y z t ++ RY)) ∧ J pre wr ∧ Below n₀ W wr) (fun p _ => (uz + 1 - intOf p).toNat)
          case atStart => exact ⟨lz, _, pre, rfl, by omega, by omega, rfl, HL2, hJ, hB⟩
          case round =>
            obtain ⟨z, t, pre, rfl, hz1, hz2, ht, HL, hJ, hB⟩ := hrel
            clear HL2 d0 d1 d2 d3 d4 d5
            rename World => w3
            obtain ⟨d0, d1, d2, d3, d4, d5⟩ := hcell w3 hB
            cases t with
            | zero =>
              have hz : ¬ z ≤ uz := by omega
              clear ht
              gi_wp2
              go_roundw
              case rel => exact ⟨y + 1, s, pre, rfl, by omega, by omega, hs', Lib.hid (by rw [HL.out, HRY.out]; simp [rowZ, upFrom]), hJ, hB⟩
              case measure => simp [intOf]; omega
            | succ t =>
              have hz : z ≤ uz := by omega
              have ht' : t = (uz + 1 - (z + 1)).toNat := by omega
              have wz := wrapL (n := z + 1) (by omega)
              have HL2 : Hid (xs = (pre ++ [(x, y, z)]) ++ (rowZ x y (z + 1) t ++ RY)) := Lib.hid (by rw [HL.out, rowZ_succ]; simp)
              obtain ⟨fn, tmps, assign, body, hyd, hR⟩ := hY pre (x, y, z) w3 hJ (by rw [HL2.out]; simp)
              unfold celV at hyd
              dsimp only at hyd
              clear ht HL hY
              gi_wp2
              refine hR.mono ?_
              rintro e w4 (⟨rfl, hJ4, hk4⟩ | ⟨rfl, hJx4⟩)
              · have hB4 := hB.trans hk4
                clear hJ hB hk4 d0 d1 d2 d3 d4 d5 hyd hR
                gi_wp2
                go_roundw
                case rel => exact ⟨z + 1, t, _, rfl, by omega, by omega, ht', HL2, hJ4, hB4⟩
                case measure => simp [intOf]; omega
              · clear hJ hB d0 d1 d2 d3 d4 d5 hyd hR
                gi_wp2
                refine bodyPost_ret (results_none rfl _ _ _) rfl ?_
                exact ⟨⟨_, rfl⟩, .inr ⟨_, ⟨_, HL2.out.symm⟩, hJx4⟩⟩
theorem cells_stops (F : Fence) (n : Nat) (h6 : F.fn 122) (hro : F.round = none) (hn : 1 ≤ n) (Bn n₀ : Nat) (b : Cel × Cel) (h1 : Near b.1 1000) (h2 : Near b.2 1000) (hBn0 : Bn < n₀) (w : World) (hn₀ : n₀ ≤ w.heap.size)
    (hW : w.heap[Bn]? = some (.cells (boxCells b) 51 (0, 0))) :
    SeqStopsK F n Tryz.prog 122 #[.pointer (some ⟨Bn, 0, none⟩)] (fun x : Cel => #[celV x]) (Below n₀) (fun ys => ys = boxL b) (fun pre => pre <+: boxL b) (boxL b).length w := fun l J Jx W hW' _ _ hY h0 =>
  cells1_in F n h6 hro hn l Bn n₀ b h1 h2 hBn0 J Jx hY W ((hW'.block Bn (Nat.lt_of_lt_of_le hBn0 hn₀)).trans hW) h0
theorem cells_in (b : Cel × Cel) (w : World) :
    Calls Tryz.prog 69 #[boxV b] w fun e w' => e = .returned (.func (.func 122) #[] #[.pointer (some ⟨w.heap.size, 0, none⟩)]) ∧ w' = w.alloc (.cells (boxCells b) 51) := by
  obtain ⟨⟨lx, ly, lz⟩, ⟨ux, uy, uz⟩⟩ := b
  unfold boxV boxCells
  dsimp only
  go_enter Tryz.func69, Tryz.ntmps69
  go_wp2
  go_ret
  exact ⟨rfl, rfl⟩
end Go.Proofs
end

section
/- slices.AppendSeq and slices.Collect of cells. -/
namespace Go.Proofs
open Go.RowKit Go.Shelf
set_option maxHeartbeats 8000000
set_option maxRecDepth 1000000
attribute [local go_sem] Oper.semAt_some
/-- A block of one cell of the document's: three numbers. -/
def BoxedC (W : World) (B : Nat) (c : Cel) : Prop := W.heap[B]? = some (.cells #[.int .i64 c.1, .int .i64 c.2.1, .int .i64 c.2.2] 24 (0, 0))
theorem BoxedC.own {β : Type} (B : Nat) (f : β → Cel) : Go.Own (fun s W => BoxedC W B (f s)) := fun s X Y row hs hg hrow =>
  (hg.block B (Array.getElem?_eq_some_iff.1 hs).1 (fun e' => by obtain ⟨o, ho, hc⟩ := hrow B e'.symm; rw [show X.heap[B]? = _ from hs] at ho; cases ho; cases hc)).trans hs
theorem BoxedC.cell {W : World} {B : Nat} {c : Cel} (h : BoxedC W B c) : W.cell? ⟨B, 0, none⟩ = some (.int .i64 c.1) ∧ W.cell? ⟨B, 1, none⟩ = some (.int .i64 c.2.1) ∧ W.cell? ⟨B, 2, none⟩ = some (.int .i64 c.2.2) := by
  have zl := fun j => cell_of_row W B j _ _ _ h
  have z0 := zl 0
  have z1 := zl 1
  have z2 := zl 2
  simp at z0 z1 z2
  exact ⟨z0, z1, z2⟩
theorem cell_three_newC (w : World) (c : Cel) (t : TypeId) : ∀ j u, (encC c)[j]? = some u → (w.alloc (.cells #[.int .i64 c.1, .int .i64 c.2.1, .int .i64 c.2.2] t)).cell? ((⟨w.heap.size, 0, none⟩ : Addr).add j) = some u := by
  intro j u hj
  match j, hj with
  | 0, hj => simp [encC] at hj; subst hj; simp [Addr.add]
  | 1, hj => simp [encC] at hj; subst hj; simp [Addr.add]
  | 2, hj => simp [encC] at hj; subst hj; simp [Addr.add]
theorem appendSeq_in (F : Fence) (n : Nat) (h84 : F.fn 121) (hro : F.round = none) (hn : 3 ≤ n) (gf : Nat) (lb : Array Value) (hgf : F.fn gf) (eg : ∀ args w, (callFunc gf args).run Tryz.prog w = .ok (.enter gf args) w)
    (xs : List Cel) (hlen : xs.length ≤ 1000000) (w : World)
    (hseq : ∀ w0, Below w.heap.size w w0 → SeqStopsK F (n - 1) Tryz.prog gf lb (fun x : Cel => #[celV x]) (Below w.heap.size) (fun ys => ys = xs) (fun pre => pre <+: xs) xs.length w0) :
    CallsIn F n Tryz.prog 121 #[.slice none 0 0, .func (.func gf) #[] lb] w fun e W' => ∃ v, e = .returned v ∧ Own W' w.heap.size v xs ∧ Below w.heap.size w W' := by
  have h1 : 1 ≤ n := by omega
  obtain ⟨j0, hj, hy0, hy1, hy2⟩ := info_parts (P := Tryz.prog) (e := 24) (z := .agg #[.int .i64 0, .int .i64 0, .int .i64 0]) (size := 3) (bytes := 24) (by kernel_rfl)
  refine callsIn_of_wp_marks Tryz.func121 rfl h84 ?_ hro
  simp only [Tryz.ntmps121, List.size_toArray, List.length_cons, List.length_nil, Nat.reduceAdd, Nat.reduceSub, Array.replicate_succ, Array.replicate_zero, List.push_toArray, List.append_toArray, List.nil_append, List.cons_append]
  gi_wp2
  have bO := Boxed.new w 22 (.slice none 0 0)
  have hB0 : Below w.heap.size w (w.alloc (.cells #[.slice none 0 0] 22)) := (Below.refl _ w).alloc (Nat.le_refl _) _
  have hsz : (w.alloc (.cells #[.slice none 0 0] 22)).heap.size = w.heap.size + 1 := by simp
  obtain ⟨W0, hW0⟩ : ∃ W0, w.alloc (.cells #[.slice none 0 0] 22) = W0 := ⟨_, rfl⟩
  rw [hW0] at bO hB0 hsz ⊢
  clear hW0
  refine wpIn_rangeFunc_ownH hro h1 (gf := gf) (lb := lb) rfl hgf eg
    (hseq W0 hB0) belowK_t (belowK_b (by omega)) (Below.refl _ _) (fun _ => rfl)
    (fun pre W => (∃ v, Boxed W w.heap.size 22 v ∧ W.ownsRow w.heap.size 24 3 v pre.length (flatC pre) ∧ True) ∧ Below w.heap.size w W)
    (fun _ _ _ => False)
    (OwnFrom.and (Go.Own.from (holdsRow_own w.heap.size w.heap.size 22 24 3 (fun pre : List Cel => pre.length) flatC (fun _ _ => True)) _) (ownFrom_below (Nat.le_refl _) (by omega)))
    (fun _ _ _ _ _ hs _ _ => hs)
    ⟨⟨_, bO, World.ownsRow_nil _ _ _ _, trivial⟩, hB0⟩
    (fun x a' W => ∃ Bx, w.heap.size < Bx ∧ BoxedC W Bx x ∧ a' = { tmps := #[.slice none 0 0, .func (.func gf) #[] lb, .pointer (some ⟨w.heap.size, 0, none⟩), undef, .slice none 0 0, .pointer (some ⟨Bx, 0, none⟩), .func (.func gf) #[] lb, celV x, undef, undef, undef, undef, undef], defers := [] })
    (fun x a' _ X Y row hs hg hr => by obtain ⟨Bx, h1, h2, h3⟩ := hs; exact ⟨Bx, h1, BoxedC.own Bx (fun (_ : Unit) => x) () X Y row h2 hg (fun r e => (hr r e).2), h3⟩)
    ?assign ?body ?done ?stop
  case assign =>
    rintro l pre ⟨x, y, z⟩ W K ⟨⟨v, bv, hrow, _⟩, hB⟩ hK
    unfold celV at hK ⊢
    dsimp only at hK ⊢
    gi_wp2
    exact hK _ _ ((KeepsOthers.alloc _ _).from _) ((Below.refl _ W).alloc hB.size _) ⟨⟨v, bv.alloc _, hrow.alloc _, trivial⟩, hB.alloc hB.size _⟩ ⟨W.heap.size, bv.lt, World.alloc_heap_new W _, rfl⟩
  case body =>
    rintro l pre ⟨x, y, z⟩ a' W hl ⟨r, hr⟩ ⟨⟨v, bv, hrow, _⟩, hB⟩ ⟨Bx, hBx, bx, rfl⟩ hlt
    have cv := bv.cell
    have fv := bv.frozen
    obtain ⟨c0, c1, c2⟩ := bx.cell
    dsimp only at c0 c1 c2
    gi_wp2_with (gi_at_builtin; refine wpListIn_append_own _ rfl _ _ 22 rfl w.heap.size 24 j0 _ 3 24 Tryz.underlying22 hj hy0 hy1 hy2 rfl (by decide) _ pre.length (flatC pre) rfl (hrow.alloc _) ⟨W.heap.size, 0, none⟩ 1 1 (encC (x, y, z)) rfl rfl (cell_three_newC _ (x, y, z) _) ?cB1 ?cC1 ?cD1 ?cE1 ?_)
    case cB1 => intro u hu; simp [encC] at hu; rcases hu with rfl | rfl | rfl <;> rfl
    case cC1 => unfold maxLen; omega
    case cD1 => omega
    case cE1 => simp; have := hB.size; omega
    intro v' w1 hown' hgrow _
    obtain ⟨g', cap', rfl⟩ := ownsRow_succ hown'
    obtain ⟨hv1, hv2, hr2, hk2, hb2⟩ := bv.appended (by decide) hrow hB.size (Nat.le_refl _) hown' hgrow
    have hc1 := hv1.cell
    have hf1 := hv1.frozen
    clear cv fv c0 c1 c2
    gi_wp2
    exact ⟨hk2.from _, hb2, ⟨_, hv2, by rw [flatC_append, List.length_append]; simpa [flatC] using hr2, trivial⟩, hB.trans hb2⟩
  case done =>
    rintro D ys W hD rfl ⟨⟨v, bv, hrow, _⟩, hB⟩ hK
    have cS := bv.cell
    gi_wp2
    refine ⟨by simp, .inl ⟨_, _, rfl, run_takeDeferred hK, ?_⟩⟩
    exact ⟨_, results_tmp rfl _ _ _, v, rfl, ownsRow_putObj hrow _ hK rfl, hB.trans (belowK_b (w := w) (Nat.le_refl _) W D _ _ (by omega) hK rfl rfl)⟩
  case stop =>
    rintro D c pre W _ _ h _
    exact h.elim
theorem collect_ok (gf : Nat) (lb : Array Value) (eg : ∀ args w, (callFunc gf args).run Tryz.prog w = .ok (.enter gf args) w)
    (xs : List Cel) (hlen : xs.length ≤ 1000000) (w : World)
    (hseq : ∀ w0, Below w.heap.size w w0 → SeqStopsK Fence.wide 2 Tryz.prog gf lb (fun x : Cel => #[celV x]) (Below w.heap.size) (fun ys => ys = xs) (fun pre => pre <+: xs) xs.length w0) :
    Calls Tryz.prog 68 #[.func (.func gf) #[] lb] w fun e W' => ∃ v, e = .returned v ∧ Own W' w.heap.size v xs ∧ Below w.heap.size w W' := by
  have h1 := fun W (hW : Below w.heap.size w W) (hs : W.heap.size = w.heap.size) => callsIn_wide.1 (appendSeq_in Fence.wide 3 trivial rfl (Nat.le_refl _) gf lb trivial eg xs hlen W (fun w0 hw0 => by rw [hs] at hw0 ⊢; exact hseq w0 (hW.trans hw0)))
  have h2 := h1 w (Below.refl _ _) rfl
  clear h1 hseq
  go_enter Tryz.func68, Tryz.ntmps68
  go_wp2_with (go_at_call 121; refine h2.mono ?_; rintro e w2 ⟨v, rfl, hown, hB⟩)
  go_ret
  exact ⟨_, rfl, hown, hB⟩
end Go.Proofs
end

section
/- The reference's CheckBox, of a right box. -/
namespace Go.Proofs
open Go.RowKit
set_option maxHeartbeats 8000000
set_option maxRecDepth 1000000
def Wide (b : Cel × Cel) : Prop := b.1.1 ≤ b.2.1 ∧ b.1.2.1 ≤ b.2.2.1 ∧ b.1.2.2 ≤ b.2.2.2
theorem checkBox_ok (b : Cel × Cel) (h1 : Near b.1 1000) (h2 : Near b.2 1000) (hw : Wide b) (hs : sizeB b ≤ 4096) (w : World) :
    Calls Tryz.prog 24 #[boxV b] w fun e w' => e = .returned (.int .i64 0) ∧ Below w.heap.size w w' := by
  have b1 := badC_near.2 h1
  have b2 := badC_near.2 h2
  obtain ⟨⟨lx, ly, lz⟩, ⟨ux, uy, uz⟩⟩ := b
  have c1 := fun W => refCheckCellG lx ly lz W
  have c2 := fun W => refCheckCellG ux uy uz W
  dsimp only at b1 b2
  rw [b1] at c1
  rw [b2] at c2
  simp only [Bool.false_eq_true, if_false] at c1 c2
  have hz := fun W => size_ok ((lx, ly, lz), (ux, uy, uz)) h1 h2 W
  unfold Wide at hw
  obtain ⟨w1, w2, w3⟩ := hw
  dsimp only at w1 w2 w3
  generalize sizeB ((lx, ly, lz), (ux, uy, uz)) = S at hs hz
  unfold boxV at hz ⊢
  dsimp only at hz ⊢
  have hB1 : Below w.heap.size w (w.alloc (.cells #[.int .i64 lx, .int .i64 ly, .int .i64 lz, .int .i64 ux, .int .i64 uy, .int .i64 uz] 55)) := (Below.refl _ _).alloc (Nat.le_refl _) _
  obtain ⟨W, hW⟩ : ∃ W, W = w.alloc (.cells #[.int .i64 lx, .int .i64 ly, .int .i64 lz, .int .i64 ux, .int .i64 uy, .int .i64 uz] 55) := ⟨_, rfl⟩
  have d0 : W.cell? ⟨w.heap.size, 0, none⟩ = some (.int .i64 lx) := by subst hW; go_simp
  have d1 : W.cell? ⟨w.heap.size, 1, none⟩ = some (.int .i64 ly) := by subst hW; go_simp
  have d2 : W.cell? ⟨w.heap.size, 2, none⟩ = some (.int .i64 lz) := by subst hW; go_simp
  have d3 : W.cell? ⟨w.heap.size, 3, none⟩ = some (.int .i64 ux) := by subst hW; go_simp
  have d4 : W.cell? ⟨w.heap.size, 4, none⟩ = some (.int .i64 uy) := by subst hW; go_simp
  have d5 : W.cell? ⟨w.heap.size, 5, none⟩ = some (.int .i64 uz) := by subst hW; go_simp
  have hlt : w.heap.size < W.heap.size := by subst hW; simp
  rw [← hW] at hB1
  clear b1 b2 h1 h2
  go_enter Tryz.func24, Tryz.ntmps24
  go_wp2_with fail
  rw [← hW]
  clear hW
  refine (c1 W).mono ?_
  rintro e w2 ⟨rfl, hB2⟩
  have e0 := (hB2.cell (p := ⟨w.heap.size, 0, none⟩) hlt).trans d0
  have e1 := (hB2.cell (p := ⟨w.heap.size, 1, none⟩) hlt).trans d1
  have e2 := (hB2.cell (p := ⟨w.heap.size, 2, none⟩) hlt).trans d2
  have e3 := (hB2.cell (p := ⟨w.heap.size, 3, none⟩) hlt).trans d3
  have e4 := (hB2.cell (p := ⟨w.heap.size, 4, none⟩) hlt).trans d4
  have e5 := (hB2.cell (p := ⟨w.heap.size, 5, none⟩) hlt).trans d5
  have hlt2 : w.heap.size < w2.heap.size := Nat.lt_of_lt_of_le hlt hB2.size
  have hB02 := hB1.trans (hB2.mono hB1.size)
  clear c1 d0 d1 d2 d3 d4 d5 hB1 hB2 hlt
  go_wp2_with fail
  refine (c2 _).mono ?_
  rintro e w3 ⟨rfl, hB3⟩
  have d0 := (hB3.cell (p := ⟨w.heap.size, 0, none⟩) hlt2).trans e0
  have d1 := (hB3.cell (p := ⟨w.heap.size, 1, none⟩) hlt2).trans e1
  have d2 := (hB3.cell (p := ⟨w.heap.size, 2, none⟩) hlt2).trans e2
  have d3 := (hB3.cell (p := ⟨w.heap.size, 3, none⟩) hlt2).trans e3
  have d4 := (hB3.cell (p := ⟨w.heap.size, 4, none⟩) hlt2).trans e4
  have d5 := (hB3.cell (p := ⟨w.heap.size, 5, none⟩) hlt2).trans e5
  have hB03 := hB02.trans (hB3.mono hB02.size)
  clear c2 e0 e1 e2 e3 e4 e5 hB02 hB3 hlt2
  go_wp2_with (go_at_call 65; refine (hz _).mono ?_; rintro e w4 ⟨rfl, hB4⟩)
  go_ret
  exact ⟨rfl, hB03.trans (hB4.mono hB03.size)⟩
end Go.Proofs
end

section
/- (Box).volume; pure facts of a box's cells. -/
namespace Go.Proofs
open Go.RowKit
set_option maxHeartbeats 8000000
set_option maxRecDepth 1000000
theorem vol_ok (b : Cel × Cel) (h1 : Near b.1 1000) (h2 : Near b.2 1000) (w : World) :
    Calls Tryz.prog 67 #[boxV b] w fun e w' => e = .returned (.int .i64 (sizeB b)) ∧ Below w.heap.size w w' := by
  obtain ⟨⟨lx, ly, lz⟩, ⟨ux, uy, uz⟩⟩ := b
  unfold Near at h1 h2
  unfold boxV sizeB
  dsimp only at h1 h2 ⊢
  have a1 := wrapL (n := ux - lx) (by omega)
  have a2 := wrapL (n := ux - lx + 1) (by omega)
  have b1 := wrapL (n := uy - ly) (by omega)
  have b2 := wrapL (n := uy - ly + 1) (by omega)
  have c1 := wrapL (n := uz - lz) (by omega)
  have c2 := wrapL (n := uz - lz + 1) (by omega)
  have hp : ∀ p q : Int, -3000 ≤ p → p ≤ 3000 → -3000 ≤ q → q ≤ 3000 → -9000000 ≤ p * q ∧ p * q ≤ 9000000 := fun p q h1 h2 h3 h4 => by
    have e1 : p * q ≤ 3000 * 3000 := by
      have := Int.mul_nonneg (a := 3000 - p) (b := 3000 + q) (by omega) (by omega)
      have := Int.mul_nonneg (a := 3000 + p) (b := 3000 - q) (by omega) (by omega)
      simp only [Int.sub_mul, Int.add_mul, Int.mul_sub, Int.mul_add] at *
      omega
    have e2 : -(3000 * 3000) ≤ p * q := by
      have := Int.mul_nonneg (a := 3000 - p) (b := 3000 - q) (by omega) (by omega)
      have := Int.mul_nonneg (a := 3000 + p) (b := 3000 + q) (by omega) (by omega)
      simp only [Int.sub_mul, Int.add_mul, Int.mul_sub, Int.mul_add] at *
      omega
    omega
  have hq : ∀ p q : Int, -9000000 ≤ p → p ≤ 9000000 → -3000 ≤ q → q ≤ 3000 → -30000000000 ≤ p * q ∧ p * q ≤ 30000000000 := fun p q h1 h2 h3 h4 => by
    have e1 : p * q ≤ 9000000 * 3000 := by
      have := Int.mul_nonneg (a := 9000000 - p) (b := 3000 + q) (by omega) (by omega)
      have := Int.mul_nonneg (a := 9000000 + p) (b := 3000 - q) (by omega) (by omega)
      simp only [Int.sub_mul, Int.add_mul, Int.mul_sub, Int.mul_add] at *
      omega
    have e2 : -(9000000 * 3000) ≤ p * q := by
      have := Int.mul_nonneg (a := 9000000 - p) (b := 3000 - q) (by omega) (by omega)
      have := Int.mul_nonneg (a := 9000000 + p) (b := 3000 + q) (by omega) (by omega)
      simp only [Int.sub_mul, Int.add_mul, Int.mul_sub, Int.mul_add] at *
      omega
    omega
  have p1 := hp (ux - lx + 1) (uy - ly + 1) (by omega) (by omega) (by omega) (by omega)
  have p2 := hq ((ux - lx + 1) * (uy - ly + 1)) (uz - lz + 1) p1.1 p1.2 (by omega) (by omega)
  have d1 := wrapL (n := (ux - lx + 1) * (uy - ly + 1)) (by omega)
  have d2 := wrapL (n := (ux - lx + 1) * (uy - ly + 1) * (uz - lz + 1)) (by omega)
  clear hp hq p1 p2 h1 h2
  go_enter Tryz.func67, Tryz.ntmps67
  go_wp2
  go_ret
  exact ⟨rfl, (Below.refl _ _).alloc (Nat.le_refl _) _⟩
theorem mem_upFrom : ∀ (n : Nat) (a x : Int), x ∈ upFrom a n ↔ a ≤ x ∧ x < a + n
  | 0, a, x => by simp [upFrom]
  | n + 1, a, x => by rw [upFrom, List.mem_cons, mem_upFrom n (a + 1) x]; omega
theorem len_upFrom : ∀ (n : Nat) (a : Int), (upFrom a n).length = n
  | 0, _ => rfl
  | n + 1, a => by rw [upFrom, List.length_cons, len_upFrom n (a + 1)]
theorem len_flatMap {α β : Type} (f : α → List β) (k : Nat) : ∀ l : List α, (∀ x ∈ l, (f x).length = k) → (l.flatMap f).length = l.length * k
  | [], _ => by simp
  | x :: l, h => by
    rw [List.flatMap_cons, List.length_append, h x (List.mem_cons_self ..), len_flatMap f k l (fun y hy => h y (List.mem_cons_of_mem _ hy)), List.length_cons, Nat.succ_mul]
    omega
/-- The cells of a box are those within it. -/
theorem mem_boxL (b : Cel × Cel) (c : Cel) : c ∈ boxL b ↔ (b.1.1 ≤ c.1 ∧ c.1 ≤ b.2.1) ∧ (b.1.2.1 ≤ c.2.1 ∧ c.2.1 ≤ b.2.2.1) ∧ (b.1.2.2 ≤ c.2.2 ∧ c.2.2 ≤ b.2.2.2) := by
  obtain ⟨x, y, z⟩ := c
  unfold boxL rowX rowY rowZ
  simp only [List.mem_flatMap, List.mem_map, mem_upFrom, Prod.mk.injEq]
  constructor
  · rintro ⟨x', hx, y', hy, z', hz, rfl, rfl, rfl⟩
    omega
  · rintro ⟨hx, hy, hz⟩
    exact ⟨x, by omega, y, by omega, z, by omega, rfl, rfl, rfl⟩
theorem len_boxL (b : Cel × Cel) (hw : Wide b) : ((boxL b).length : Int) = sizeB b := by
  unfold Wide at hw
  have h : (boxL b).length = (b.2.1 + 1 - b.1.1).toNat * ((b.2.2.1 + 1 - b.1.2.1).toNat * (b.2.2.2 + 1 - b.1.2.2).toNat) := by
    unfold boxL rowX
    rw [len_flatMap _ ((b.2.2.1 + 1 - b.1.2.1).toNat * (b.2.2.2 + 1 - b.1.2.2).toNat), len_upFrom]
    intro x _
    unfold rowY
    rw [len_flatMap _ (b.2.2.2 + 1 - b.1.2.2).toNat, len_upFrom]
    intro y _
    unfold rowZ
    rw [List.length_map, len_upFrom]
  rw [h]
  unfold sizeB
  rw [Int.natCast_mul, Int.natCast_mul, Int.toNat_of_nonneg (by omega), Int.toNat_of_nonneg (by omega), Int.toNat_of_nonneg (by omega), Int.mul_assoc]
  congr 1
  · omega
  · congr 1 <;> omega
theorem upFrom_asc : ∀ (n : Nat) (a : Int), (upFrom a n).Pairwise fun x y => x < y
  | 0, _ => List.Pairwise.nil
  | n + 1, a => by
    rw [upFrom, List.pairwise_cons]
    refine ⟨fun x hx => ?_, upFrom_asc n (a + 1)⟩
    have := (mem_upFrom n (a + 1) x).1 hx
    omega
theorem ltC_iff (x y : Cel) : ltC x y = true ↔ x.1 < y.1 ∨ x.1 = y.1 ∧ (x.2.1 < y.2.1 ∨ x.2.1 = y.2.1 ∧ x.2.2 < y.2.2) := by simp [ltC]
theorem pw_flatMap {α β : Type} {r : α → α → Prop} {s : β → β → Prop} (f : α → List β) : ∀ l : List α, l.Pairwise r → (∀ x ∈ l, (f x).Pairwise s) → (∀ x y, r x y → ∀ p ∈ f x, ∀ q ∈ f y, s p q) → (l.flatMap f).Pairwise s
  | [], _, _, _ => List.Pairwise.nil
  | x :: l, h, h1, h2 => by
    obtain ⟨ha, hb⟩ := List.pairwise_cons.1 h
    rw [List.flatMap_cons, List.pairwise_append]
    refine ⟨h1 x (List.mem_cons_self ..), pw_flatMap f l hb (fun y hy => h1 y (List.mem_cons_of_mem _ hy)) h2, fun p hp q hq => ?_⟩
    obtain ⟨y, hy, hq⟩ := List.mem_flatMap.1 hq
    exact h2 x y (ha y hy) p hp q hq
theorem up_boxL (b : Cel × Cel) : Up (boxL b) := by
  refine pw_flatMap (r := fun x y : Int => x < y) _ _ (upFrom_asc _ _) (fun x _ => ?_) (fun x y hxy p hp q hq => ?_)
  · refine pw_flatMap (r := fun x y : Int => x < y) _ _ (upFrom_asc _ _) (fun y _ => ?_) (fun y y' hxy p hp q hq => ?_)
    · unfold rowZ
      rw [List.pairwise_map]
      refine List.Pairwise.imp (R := fun x y : Int => x < y) ?_ (upFrom_asc _ _)
      intro p q h
      exact (ltC_iff (x, y, p) (x, y, q)).2 (.inr ⟨rfl, .inr ⟨rfl, h⟩⟩)
    · unfold rowZ at hp hq
      obtain ⟨_, _, rfl⟩ := List.mem_map.1 hp
      obtain ⟨_, _, rfl⟩ := List.mem_map.1 hq
      exact (ltC_iff _ _).2 (.inr ⟨rfl, .inl hxy⟩)
  · unfold rowY rowZ at hp hq
    obtain ⟨_, _, hp⟩ := List.mem_flatMap.1 hp
    obtain ⟨_, _, hq⟩ := List.mem_flatMap.1 hq
    obtain ⟨_, _, rfl⟩ := List.mem_map.1 hp
    obtain ⟨_, _, rfl⟩ := List.mem_map.1 hq
    exact (ltC_iff _ _).2 (.inl hxy)
end Go.Proofs
end

section
/- grid.bound and grid.Bound. -/
namespace Go.Proofs
open Go.RowKit
set_option maxHeartbeats 8000000
set_option maxRecDepth 1000000
theorem bound_ok (l : List Cel) (h : Cel) (v : Value) (w : World) (hl : Sl w v l) (hh : l[0]? = some h) (hn : l.length ≤ 1000000) :
    Calls Tryz.prog 64 #[v] w fun e w' => e = .returned (boxV (bndK h l l.length)) ∧ Below w.heap.size w w' := by
  have hpos : 0 < l.length := (List.getElem?_eq_some_iff.1 hh).1
  obtain ⟨A, cap, rfl⟩ := hl.form
  obtain ⟨b, o, x, y, z, rfl, -, hb, hc, r0, r1, r2⟩ := hl.cells hpos
  obtain rfl : h = (x, y, z) := by rw [hh] at hc; exact Option.some.inj hc
  have hn0 : (0 : Int) < l.length := by omega
  have hn1 : (0 : Int) ≤ 0 := Int.le_refl _
  simp only [Nat.zero_mul, Nat.add_zero] at r0 r1 r2
  have hl' := hl
  clear hl
  have hl := Lib.hid hl'
  clear hl'
  go_enter Tryz.func64, Tryz.ntmps64
  go_wp2
  obtain ⟨W, hW⟩ : ∃ W, W = w.alloc (.cells #[.int .i64 0, .int .i64 0, .int .i64 0, .int .i64 0, .int .i64 0, .int .i64 0] 51) := ⟨_, rfl⟩
  have hBW : Below w.heap.size w W := by subst hW; exact (Below.refl _ _).alloc (Nat.le_refl _) _
  have hs : w.heap.size < W.heap.size := by subst hW; simp
  have hZ0 : W.heap[w.heap.size]? = some (.cells #[.int .i64 0, .int .i64 0, .int .i64 0, .int .i64 0, .int .i64 0, .int .i64 0] 51 (0, 0)) := by subst hW; exact heap_alloc_new w _
  have R0 : W.cell? ⟨b, o, none⟩ = some (.int .i64 x) := (hBW.cell (p := ⟨b, o, none⟩) hb).trans r0
  have R1 : W.cell? ⟨b, o + 1, none⟩ = some (.int .i64 y) := (hBW.cell (p := ⟨b, o + 1, none⟩) hb).trans r1
  have R2 : W.cell? ⟨b, o + 2, none⟩ = some (.int .i64 z) := (hBW.cell (p := ⟨b, o + 2, none⟩) hb).trans r2
  have hbW : b < W.heap.size := Nat.lt_trans hb hs
  rw [← hW]
  clear hW r0 r1 r2
  go_region_held3 (fun w' => w'.cell? ⟨b, o, none⟩ = some (.int .i64 x) ∧ w'.cell? ⟨b, o + 1, none⟩ = some (.int .i64 y) ∧ w'.cell? ⟨b, o + 2, none⟩ = some (.int .i64 z)) (first | exact ⟨R0, R1, R2⟩ | go_keep) (fail)
  rename_i hHeld
  clear hHeld
  obtain ⟨V, hV⟩ : ∃ V, V = (W.alloc (.cells #[.int .i64 x, .int .i64 y, .int .i64 z, .int .i64 x, .int .i64 y, .int .i64 z] 51)).drew := ⟨_, rfl⟩
  have hBV : Below w.heap.size w V := by subst hV; exact (hBW.alloc hBW.size _).drew
  have hG : V.heap[W.heap.size]? = some (.cells #[.int .i64 x, .int .i64 y, .int .i64 z, .int .i64 x, .int .i64 y, .int .i64 z] 51 (0, 0)) := by subst hV; exact heap_alloc_new W _
  rw [← hV]
  have hZV : V.heap[w.heap.size]? = some (.cells #[.int .i64 0, .int .i64 0, .int .i64 0, .int .i64 0, .int .i64 0, .int .i64 0] 51 (0, 0)) := by subst hV; exact (Below.heap_alloc W _ _ hs).trans hZ0
  have hGw : w.heap.size ≤ W.heap.size := Nat.le_of_lt hs
  have hGn : w.heap.size ≠ W.heap.size := Nat.ne_of_lt hs
  have hGl : W.heap.size < V.heap.size := by subst hV; simp
  clear hV R0 R1 R2 hs hBW hbW hZ0
  generalize W.heap.size = G at hG hGw hGn hGl ⊢
  go_wp2
  go_loopw [15] (fun i wr => ∃ (k : Nat) (B : Cel × Cel), k ≤ l.length ∧ i = .int .i64 k ∧ B = bndK (x, y, z) l k ∧ wr.heap[G]? = some (.cells #[.int .i64 B.1.1, .int .i64 B.1.2.1, .int .i64 B.1.2.2, .int .i64 B.2.1, .int .i64 B.2.2.1, .int .i64 B.2.2.2] 51 (0, 0)) ∧ wr.heap[w.heap.size]? = some (.cells #[.int .i64 0, .int .i64 0, .int .i64 0, .int .i64 0, .int .i64 0, .int .i64 0] 51 (0, 0)) ∧ Below w.heap.size w wr ∧ G < wr.heap.size) (fun i _ => l.length - (intOf i).toNat)
  case atStart => exact ⟨0, ((x, y, z), (x, y, z)), Nat.zero_le _, rfl, rfl, hG, hZV, hBV, hGl⟩
  case round =>
    obtain ⟨k, ⟨⟨lx, ly, lz⟩, ⟨ux, uy, uz⟩⟩, hk, rfl, hBk, hg, hz, hBel, hGl1⟩ := hrel
    dsimp only at hg
    rename World => w1
    rcases Nat.lt_or_eq_of_le hk with hkn | rfl
    · obtain ⟨b', o', x', y', z', e', -, hb', hc', r0, r1, r2⟩ := hl.out.cells hkn
      obtain ⟨rfl, rfl⟩ : b' = b ∧ o' = o := by injection e' with e'; injection e' with e1 e2; exact ⟨e1.symm, e2.symm⟩
      have hst := bndK_succ (h := (x, y, z)) hc'
      rw [← hBk] at hst
      have R0 := (hBel.cell (p := ⟨b', _, none⟩) hb).trans r0
      have R1 := (hBel.cell (p := ⟨b', _, none⟩) hb).trans r1
      have R2 := (hBel.cell (p := ⟨b', _, none⟩) hb).trans r2
      have hk0 : (0 : Int) ≤ k := by omega
      have hkl : (k : Int) < l.length := by omega
      have Hst := Lib.hid hst
      obtain ⟨w2, hw2⟩ : ∃ w2, w2 = w1.alloc (.cells #[.int .i64 x', .int .i64 y', .int .i64 z'] 24) := ⟨_, rfl⟩
      have hB12 : Below w1.heap.size w1 w2 := by subst hw2; exact (Below.refl _ _).alloc (Nat.le_refl _) _
      have d0 : w2.cell? ⟨w1.heap.size, 0, none⟩ = some (.int .i64 x') := by subst hw2; go_simp
      have d1 : w2.cell? ⟨w1.heap.size, 1, none⟩ = some (.int .i64 y') := by subst hw2; go_simp
      have d2 : w2.cell? ⟨w1.heap.size, 2, none⟩ = some (.int .i64 z') := by subst hw2; go_simp
      have hg2 : w2.heap[G]? = _ := (hB12.block G hGl1).trans hg
      have hz2 : w2.heap[w.heap.size]? = _ := (hB12.block _ (by have := hBel.size; omega)).trans hz
      have hB2 := hBel.trans (hB12.mono hBel.size)
      have hGne : G ≠ w1.heap.size := by omega
      have hG2 : G < w2.heap.size := Nat.lt_of_lt_of_le hGl1 hB12.size
      have cl := fun j => cell_of_row w2 G j _ _ _ hg2
      have c0 := cl 0
      have c1 := cl 1
      have c2 := cl 2
      have c3 := cl 3
      have c4 := cl 4
      have c5 := cl 5
      have fz := fun j => frozen_of_row w2 G j _ _ hg2
      simp at c0 c1 c2 c3 c4 c5
      clear hc hh hG hZV hBV r0 r1 r2 e' cl hst hBk hg hz hB12 hBel hc' hb' hl
      go_upto_region 5 with fail
      rw [← hw2]
      clear hw2 R0 R1 R2
      have hg3 := heap_setCell_same _ G 2 _ _ (.int .i64 (min lz z')) (heap_setCell_same _ G 1 _ _ (.int .i64 (min ly y')) (heap_setCell_same _ G 0 _ _ (.int .i64 (min lx x')) hg2))
      have hz3 := (heap_setCell_other _ ⟨G, 2, none⟩ w.heap.size (.int .i64 (min lz z')) hGn).trans ((heap_setCell_other _ ⟨G, 1, none⟩ w.heap.size (.int .i64 (min ly y')) hGn).trans ((heap_setCell_other _ ⟨G, 0, none⟩ w.heap.size (.int .i64 (min lx x')) hGn).trans hz2))
      have hB3 := ((hB2.setCell (p := ⟨G, 0, none⟩) hGw (.int .i64 (min lx x'))).setCell (p := ⟨G, 1, none⟩) hGw (.int .i64 (min ly y'))).setCell (p := ⟨G, 2, none⟩) hGw (.int .i64 (min lz z'))
      have hG3 : G < (((w2.setCell ⟨G, 0, none⟩ (.int .i64 (min lx x'))).setCell ⟨G, 1, none⟩ (.int .i64 (min ly y'))).setCell ⟨G, 2, none⟩ (.int .i64 (min lz z'))).heap.size := by simpa [World.setCell] using hG2
      have e0 : (((w2.setCell ⟨G, 0, none⟩ (.int .i64 (min lx x'))).setCell ⟨G, 1, none⟩ (.int .i64 (min ly y'))).setCell ⟨G, 2, none⟩ (.int .i64 (min lz z'))).cell? ⟨w1.heap.size, 0, none⟩ = some (.int .i64 x') := by go_simp
      have e1 : (((w2.setCell ⟨G, 0, none⟩ (.int .i64 (min lx x'))).setCell ⟨G, 1, none⟩ (.int .i64 (min ly y'))).setCell ⟨G, 2, none⟩ (.int .i64 (min lz z'))).cell? ⟨w1.heap.size, 1, none⟩ = some (.int .i64 y') := by go_simp
      have e2 : (((w2.setCell ⟨G, 0, none⟩ (.int .i64 (min lx x'))).setCell ⟨G, 1, none⟩ (.int .i64 (min ly y'))).setCell ⟨G, 2, none⟩ (.int .i64 (min lz z'))).cell? ⟨w1.heap.size, 2, none⟩ = some (.int .i64 z') := by go_simp
      simp at hg3
      clear hg2 hz2 hB2
      go_upto_region 6 with fail
      generalize ((w2.setCell ⟨G, 0, none⟩ (.int .i64 (min lx x'))).setCell ⟨G, 1, none⟩ (.int .i64 (min ly y'))).setCell ⟨G, 2, none⟩ (.int .i64 (min lz z')) = w3 at hg3 hz3 hB3 hG3 e0 e1 e2 ⊢
      clear fz c0 c1 c2 c3 c4 c5 d0 d1 d2 hG2
      have cl := fun j => cell_of_row w3 G j _ _ _ hg3
      have c3 := cl 3
      have c4 := cl 4
      have c5 := cl 5
      have fz := fun j => frozen_of_row w3 G j _ _ hg3
      simp at c3 c4 c5
      clear cl
      have hg4 := heap_setCell_same _ G 5 _ _ (.int .i64 (max uz z')) (heap_setCell_same _ G 4 _ _ (.int .i64 (max uy y')) (heap_setCell_same _ G 3 _ _ (.int .i64 (max ux x')) hg3))
      have hz4 := (heap_setCell_other _ ⟨G, 5, none⟩ w.heap.size (.int .i64 (max uz z')) hGn).trans ((heap_setCell_other _ ⟨G, 4, none⟩ w.heap.size (.int .i64 (max uy y')) hGn).trans ((heap_setCell_other _ ⟨G, 3, none⟩ w.heap.size (.int .i64 (max ux x')) hGn).trans hz3))
      have hB4 := ((hB3.setCell (p := ⟨G, 3, none⟩) hGw (.int .i64 (max ux x'))).setCell (p := ⟨G, 4, none⟩) hGw (.int .i64 (max uy y'))).setCell (p := ⟨G, 5, none⟩) hGw (.int .i64 (max uz z'))
      simp at hg4
      have Hg4 := Lib.hid hg4
      have Hz4 := Lib.hid hz4
      clear hg3 hz3 hB3 hg4 hz4
      go_wp2
      exact ⟨⟨k + 1, ((min lx x', min ly y', min lz z'), (max ux x', max uy y', max uz z')), hkn, rfl, Hst.out.symm, Hg4.out, Hz4.out, hB4, by simpa [World.setCell] using hG3⟩, by simp [intOf]; omega⟩
    · have cl := fun j => cell_of_row w1 G j _ _ _ hg
      have c0 := cl 0
      have c1 := cl 1
      have c2 := cl 2
      have c3 := cl 3
      have c4 := cl 4
      have c5 := cl 5
      simp at c0 c1 c2 c3 c4 c5
      have zl := fun j => cell_of_row w1 w.heap.size j _ _ _ hz
      have z0 := zl 0
      have z1 := zl 1
      have z2 := zl 2
      have z3 := zl 3
      have z4 := zl 4
      have z5 := zl 5
      simp at z0 z1 z2 z3 z4 z5
      have fz := fun j => frozen_of_row w1 w.heap.size j _ _ hz
      have hz' := heap_setCell_same _ w.heap.size 5 _ _ (.int .i64 uz) (heap_setCell_same _ w.heap.size 4 _ _ (.int .i64 uy) (heap_setCell_same _ w.heap.size 3 _ _ (.int .i64 ux) (heap_setCell_same _ w.heap.size 2 _ _ (.int .i64 lz) (heap_setCell_same _ w.heap.size 1 _ _ (.int .i64 ly) (heap_setCell_same _ w.heap.size 0 _ _ (.int .i64 lx) hz)))))
      simp at hz'
      have hle := Nat.le_refl w.heap.size
      have hB' := (((((hBel.setCell (p := ⟨w.heap.size, 0, none⟩) hle (.int .i64 lx)).setCell (p := ⟨w.heap.size, 1, none⟩) hle (.int .i64 ly)).setCell (p := ⟨w.heap.size, 2, none⟩) hle (.int .i64 lz)).setCell (p := ⟨w.heap.size, 3, none⟩) hle (.int .i64 ux)).setCell (p := ⟨w.heap.size, 4, none⟩) hle (.int .i64 uy)).setCell (p := ⟨w.heap.size, 5, none⟩) hle (.int .i64 uz)
      have HBk := Lib.hid hBk
      have Hz' := Lib.hid hz'
      clear hl hc hh hG hZV hBV cl hBk zl hz hz' hg
      go_wp2
      have hfin := HBk.out
      refine bodyPost_ret (results_cell_row rfl _ _ _ 51 #[.int .i64 lx, .int .i64 ly, .int .i64 lz, .int .i64 ux, .int .i64 uy, .int .i64 uz] (0, 0) _ rfl Hz'.out Tryz.underlying51 rfl (by kernel_rfl)) rfl ?_
      refine ⟨?_, hB'⟩
      rw [← hfin]
      rfl
end Go.Proofs
end

section
/- grid.Bound, of a set with cells. -/
namespace Go.Proofs
open Go.RowKit
set_option maxHeartbeats 8000000
set_option maxRecDepth 1000000
theorem Bound_ok (l : List Cel) (h : Cel) (v : Value) (w : World) (hl : Sl w v l) (hh : l[0]? = some h) (hc : chkI l = 0) :
    Calls Tryz.prog 23 #[v] w fun e w' => e = .returned (.tuple #[boxV (bndK h l l.length), .int .i64 0]) ∧ Below w.heap.size w w' := by
  have la := (chkI_zero.1 hc).1
  have hB0 : Below w.heap.size w (w.alloc (.cells #[.int .i64 0, .int .i64 0, .int .i64 0, .int .i64 0, .int .i64 0, .int .i64 0] 51)) := (Below.refl _ _).alloc (Nat.le_refl _) _
  have h1 := gridCheckG l v _ (hl.below hB0) (by unfold maxLen; omega)
  rw [hc] at h1
  have hb := fun W (hW : Below w.heap.size w W) => bound_ok l h v W (hl.below hW) hh (by omega)
  have hpos : 0 < l.length := (List.getElem?_eq_some_iff.1 hh).1
  obtain ⟨A, cap, rfl⟩ := hl.form
  have hn0 : (((l.length : Nat) : Int) == 0) = false := by rw [beq_eq_false_iff_ne]; omega
  generalize bndK h l l.length = B at hb ⊢
  obtain ⟨⟨lx, ly, lz⟩, ⟨ux, uy, uz⟩⟩ := B
  unfold boxV at hb ⊢
  dsimp only at hb ⊢
  have hz0 : (w.alloc (.cells #[.int .i64 0, .int .i64 0, .int .i64 0, .int .i64 0, .int .i64 0, .int .i64 0] 51)).heap[w.heap.size]? = some (.cells #[.int .i64 0, .int .i64 0, .int .i64 0, .int .i64 0, .int .i64 0, .int .i64 0] 51 (0, 0)) := heap_alloc_new w _
  have hlt : w.heap.size < (w.alloc (.cells #[.int .i64 0, .int .i64 0, .int .i64 0, .int .i64 0, .int .i64 0, .int .i64 0] 51)).heap.size := by simp
  clear hl hh hc la
  go_enter Tryz.func23, Tryz.ntmps23
  generalize l.length = n at h1 hb hn0 hpos ⊢
  obtain ⟨W, hW⟩ : ∃ W, W = w.alloc (.cells #[.int .i64 0, .int .i64 0, .int .i64 0, .int .i64 0, .int .i64 0, .int .i64 0] 51) := ⟨_, rfl⟩
  rw [← hW] at h1 hB0 hz0 hlt
  go_wp2_with fail
  rw [← hW]
  clear hW
  refine h1.mono ?_
  rintro e w2 ⟨rfl, hB2⟩
  have hB02 := hB0.trans (hB2.mono hB0.size)
  have hb2 := hb w2 hB02
  have hlt2 : w.heap.size < w2.heap.size := Nat.lt_of_lt_of_le hlt hB2.size
  have hz2 := (hB2.block _ hlt).trans hz0
  clear h1 hb hB0 hB2 hz0
  go_wp2_with fail
  refine hb2.mono ?_
  rintro e w3 ⟨rfl, hB3⟩
  have hB03 := hB02.trans (hB3.mono hB02.size)
  have hz := (hB3.block _ hlt2).trans hz2
  have zl := fun j => cell_of_row w3 w.heap.size j _ _ _ hz
  have z0 := zl 0
  have z1 := zl 1
  have z2 := zl 2
  have z3 := zl 3
  have z4 := zl 4
  have z5 := zl 5
  simp at z0 z1 z2 z3 z4 z5
  have fz := fun j => frozen_of_row w3 w.heap.size j _ _ hz
  have hle := Nat.le_refl w.heap.size
  have hB' := (((((hB03.setCell (p := ⟨w.heap.size, 0, none⟩) hle (.int .i64 lx)).setCell (p := ⟨w.heap.size, 1, none⟩) hle (.int .i64 ly)).setCell (p := ⟨w.heap.size, 2, none⟩) hle (.int .i64 lz)).setCell (p := ⟨w.heap.size, 3, none⟩) hle (.int .i64 ux)).setCell (p := ⟨w.heap.size, 4, none⟩) hle (.int .i64 uy)).setCell (p := ⟨w.heap.size, 5, none⟩) hle (.int .i64 uz)
  have hz' := heap_setCell_same _ w.heap.size 5 _ _ (.int .i64 uz) (heap_setCell_same _ w.heap.size 4 _ _ (.int .i64 uy) (heap_setCell_same _ w.heap.size 3 _ _ (.int .i64 ux) (heap_setCell_same _ w.heap.size 2 _ _ (.int .i64 lz) (heap_setCell_same _ w.heap.size 1 _ _ (.int .i64 ly) (heap_setCell_same _ w.heap.size 0 _ _ (.int .i64 lx) hz)))))
  simp at hz'
  have Hz' := Lib.hid hz'
  clear hb2 hB3 hz2 hz zl hz'
  go_wp2
  have yl := fun j => cell_of_row _ w.heap.size j _ _ _ Hz'.out
  exact bodyPost_ret (v := .tuple #[.agg #[.int .i64 lx, .int .i64 ly, .int .i64 lz, .int .i64 ux, .int .i64 uy, .int .i64 uz], .int .i64 0]) (by simp [results, Tryz.results23, go_sem, yl]) rfl ⟨rfl, hB'⟩
end Go.Proofs
end

section
/- grid.Block, of a box with cells. -/
namespace Go.Proofs
open Go.RowKit
set_option maxHeartbeats 8000000
set_option maxRecDepth 1000000
theorem block_ok (b : Cel × Cel) (h1 : Near b.1 1000) (h2 : Near b.2 1000) (hw : Wide b) (hs : sizeB b ≤ 4096) (w : World) :
    Calls Tryz.prog 25 #[boxV b] w fun e w' => ∃ v, e = .returned (.tuple #[v, .int .i64 0]) ∧ Own w' w.heap.size v (boxL b) ∧ Below w.heap.size w w' := by
  have hlen : (boxL b).length ≤ 1000000 := by have := len_boxL b hw; omega
  have b1 := badC_near.2 h1
  have b2 := badC_near.2 h2
  have hvol := vol_ok b h1 h2
  have hcel := cells_in b
  have hcol : ∀ (W : World) (Bn : Nat), Bn < W.heap.size → W.heap[Bn]? = some (.cells (boxCells b) 51 (0, 0)) → Calls Tryz.prog 68 #[.func (.func 122) #[] #[.pointer (some ⟨Bn, 0, none⟩)]] W fun e W' => ∃ v, e = .returned v ∧ Own W' W.heap.size v (boxL b) ∧ Below W.heap.size W W' := fun W Bn hlt hW =>
    collect_ok 122 #[.pointer (some ⟨Bn, 0, none⟩)] (enters_of Tryz.func122 (by kernel_rfl) rfl) (boxL b) hlen W
      (fun w0 hw0 => cells_stops Fence.wide 2 trivial rfl (by omega) Bn W.heap.size b h1 h2 hlt w0 hw0.size ((hw0.block Bn hlt).trans hW))
  unfold Wide at hw
  obtain ⟨⟨lx, ly, lz⟩, ⟨ux, uy, uz⟩⟩ := b
  dsimp only at b1 b2 hw
  have cc : ∀ x y z W, badC (x, y, z) = false → Calls Tryz.prog 66 #[.agg #[.int .i64 x, .int .i64 y, .int .i64 z]] W fun e w' => e = .returned (.int .i64 0) ∧ Below W.heap.size W w' := fun x y z W hb => by
    have := checkCellG x y z W
    rw [hb] at this
    exact this
  obtain ⟨w1, w2, w3⟩ := hw
  have n1 : ¬ lx > ux := by omega
  have n2 : ¬ ly > uy := by omega
  have n3 : ¬ lz > uz := by omega
  generalize sizeB ((lx, ly, lz), (ux, uy, uz)) = S at hs hvol
  generalize boxL ((lx, ly, lz), (ux, uy, uz)) = L at hcol hlen ⊢
  unfold boxV at hvol hcel ⊢
  unfold boxCells at hcel hcol
  dsimp only at hvol hcel hcol ⊢
  have hS : ¬ S > 4096 := by omega
  have hB1 : Below w.heap.size w (w.alloc (.cells #[.int .i64 lx, .int .i64 ly, .int .i64 lz, .int .i64 ux, .int .i64 uy, .int .i64 uz] 51)) := (Below.refl _ _).alloc (Nat.le_refl _) _
  obtain ⟨W, hW⟩ : ∃ W, W = w.alloc (.cells #[.int .i64 lx, .int .i64 ly, .int .i64 lz, .int .i64 ux, .int .i64 uy, .int .i64 uz] 51) := ⟨_, rfl⟩
  have d0 : W.cell? ⟨w.heap.size, 0, none⟩ = some (.int .i64 lx) := by subst hW; go_simp
  have d1 : W.cell? ⟨w.heap.size, 1, none⟩ = some (.int .i64 ly) := by subst hW; go_simp
  have d2 : W.cell? ⟨w.heap.size, 2, none⟩ = some (.int .i64 lz) := by subst hW; go_simp
  have d3 : W.cell? ⟨w.heap.size, 3, none⟩ = some (.int .i64 ux) := by subst hW; go_simp
  have d4 : W.cell? ⟨w.heap.size, 4, none⟩ = some (.int .i64 uy) := by subst hW; go_simp
  have d5 : W.cell? ⟨w.heap.size, 5, none⟩ = some (.int .i64 uz) := by subst hW; go_simp
  have hlt : w.heap.size < W.heap.size := by subst hW; simp
  have hk : ∀ W', Below W.heap.size W W' → W'.cell? ⟨w.heap.size, 0, none⟩ = some (.int .i64 lx) ∧ W'.cell? ⟨w.heap.size, 1, none⟩ = some (.int .i64 ly) ∧ W'.cell? ⟨w.heap.size, 2, none⟩ = some (.int .i64 lz) ∧ W'.cell? ⟨w.heap.size, 3, none⟩ = some (.int .i64 ux) ∧ W'.cell? ⟨w.heap.size, 4, none⟩ = some (.int .i64 uy) ∧ W'.cell? ⟨w.heap.size, 5, none⟩ = some (.int .i64 uz) := fun W' h =>
    ⟨(h.cell (p := ⟨w.heap.size, 0, none⟩) hlt).trans d0, (h.cell (p := ⟨w.heap.size, 1, none⟩) hlt).trans d1, (h.cell (p := ⟨w.heap.size, 2, none⟩) hlt).trans d2, (h.cell (p := ⟨w.heap.size, 3, none⟩) hlt).trans d3, (h.cell (p := ⟨w.heap.size, 4, none⟩) hlt).trans d4, (h.cell (p := ⟨w.heap.size, 5, none⟩) hlt).trans d5⟩
  rw [← hW] at hB1
  clear h1 h2 hs hlen w1 w2 w3
  go_enter Tryz.func25, Tryz.ntmps25
  go_wp2
  rw [← hW]
  clear hW
  have hX : Below W.heap.size W W.drew := (Below.refl _ _).drew
  go_region_held3 (fun w' => w'.cell? ⟨w.heap.size, 0, none⟩ = some (.int .i64 lx) ∧ w'.cell? ⟨w.heap.size, 1, none⟩ = some (.int .i64 ly) ∧ w'.cell? ⟨w.heap.size, 2, none⟩ = some (.int .i64 lz) ∧ w'.cell? ⟨w.heap.size, 3, none⟩ = some (.int .i64 ux) ∧ w'.cell? ⟨w.heap.size, 4, none⟩ = some (.int .i64 uy) ∧ w'.cell? ⟨w.heap.size, 5, none⟩ = some (.int .i64 uz)) (first | exact hkk | exact ⟨d0, d1, d2, d3, d4, d5⟩ | go_keep) (first
    | (go_at_call 66; refine (cc _ _ _ _ (by first | exact b1 | exact b2)).mono ?_; rintro e w4 ⟨rfl, hB4⟩; have hX := hX.trans (hB4.mono hX.size); have hkk := hk _ hX)
    | (go_at_call 53; refine (first2_ok 0 0 _ _ _ ?_ ?_).mono ?_; (go_simp); (go_simp); rintro e w5 ⟨rfl, hw5⟩; subst hw5))
  rename_i hHeld
  clear hHeld
  have hX5 := hX.alloc hX.size (.cells #[.int .i64 0, .int .i64 0] 28)
  have hor : orI 0 0 0 = 0 := by decide
  rw [hor]
  obtain ⟨W5, hW5⟩ : ∃ W5, W5 = w4.alloc (.cells #[.int .i64 0, .int .i64 0] 28) := ⟨_, rfl⟩
  rw [← hW5] at hX5 ⊢
  clear hkk hX hB4 hW5 d0 d1 d2 d3 d4 d5 hor
  obtain ⟨d0, d1, d2, d3, d4, d5⟩ := hk W5 hX5
  have hB5 := hB1.trans (hX5.mono hB1.size)
  have hlt5 := Nat.lt_of_lt_of_le hlt hX5.size
  go_wp2_with (go_at_call 67; refine (hvol _).mono ?_; rintro e w6 ⟨rfl, hB6⟩; have hX6 := hX5.trans (hB6.mono hX5.size); obtain ⟨e0, e1, e2, e3, e4, e5⟩ := hk w6 hX6)
  have hB06 := hB5.trans (hB6.mono hB5.size)
  clear d0 d1 d2 d3 d4 d5 hk hvol hX5 hX6 hB5 hB6
  have hcel6 := hcel w6
  have hcol6 := hcol (w6.alloc (.cells #[.int .i64 lx, .int .i64 ly, .int .i64 lz, .int .i64 ux, .int .i64 uy, .int .i64 uz] 51)) w6.heap.size (by simp) (World.alloc_heap_new w6 _)
  have hB7 := hB06.alloc hB06.size (.cells #[.int .i64 lx, .int .i64 ly, .int .i64 lz, .int .i64 ux, .int .i64 uy, .int .i64 uz] 51)
  clear hcel hcol
  go_wp2_with (first
    | (go_at_call 69; refine hcel6.mono ?_; rintro e w7 ⟨rfl, rfl⟩)
    | (go_at_call 68; refine hcol6.mono ?_; rintro e w8 ⟨v, rfl, hown, hB8⟩))
  go_ret2
  exact ⟨v, rfl, hown.lower hB7.size, hB7.trans (hB8.mono hB7.size)⟩
end Go.Proofs
end
