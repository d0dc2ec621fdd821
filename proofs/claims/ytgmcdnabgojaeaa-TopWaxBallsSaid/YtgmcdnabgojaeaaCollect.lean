import Derived.Test.YtgmcdnabgojaeaaFewR
import Derived.RangeFuncNested
import Derived.RangeFuncBound
import Derived.RangeFuncCalls
import Derived.RangeFuncLeaves
import Derived.RangeFuncBox
import Derived.Shelf.Abstract
import Derived.Shelf.RegionOpen
import Derived.WalkKit
import Derived.OwnWalkIn
import Derived.TacticsInMore
import Derived.LoopNIn
import Derived.LoopIn
import Derived.Maps.AppendAt
section
/- (Box).volume; (Box).cells, the iterator over a box's cells. -/
namespace Go.Proofs
open Go.RowKit Go.Shelf
set_option maxHeartbeats 8000000
set_option maxRecDepth 1000000
attribute [local go_sem] Oper.semAt_some
/-- n whole numbers from a on. -/
def upFrom (a : Int) : Nat → List Int
  | 0 => []
  | n + 1 => a :: upFrom (a + 1) n
def rowZ (x y : Int) (z : Int) (k : Nat) : List Cel := (upFrom z k).map fun z => (x, y, z)
def rowY (x z : Int) (k : Nat) (y : Int) (m : Nat) : List Cel := (upFrom y m).flatMap fun y => rowZ x y z k
def rowX (y z : Int) (m k : Nat) (x : Int) (n : Nat) : List Cel := (upFrom x n).flatMap fun x => rowY x z k y m
theorem rowZ_succ (x y z : Int) (k : Nat) : rowZ x y z (k + 1) = (x, y, z) :: rowZ x y (z + 1) k := rfl
theorem rowY_succ (x z : Int) (k : Nat) (y : Int) (m : Nat) : rowY x z k y (m + 1) = rowZ x y z k ++ rowY x z k (y + 1) m := by simp [rowY, upFrom]
theorem rowX_succ (y z : Int) (m k : Nat) (x : Int) (n : Nat) : rowX y z m k x (n + 1) = rowY x z k y m ++ rowX y z m k (x + 1) n := by simp [rowX, upFrom]
/-- The cells of a box, by x, then y, then z. -/
def boxL (b : Cel × Cel) : List Cel := rowX b.1.2.1 b.1.2.2 (b.2.2.1 + 1 - b.1.2.1).toNat (b.2.2.2 + 1 - b.1.2.2).toNat b.1.1 (b.2.1 + 1 - b.1.1).toNat
def boxCells (b : Cel × Cel) : Array Value := #[.int .i64 b.1.1, .int .i64 b.1.2.1, .int .i64 b.1.2.2, .int .i64 b.2.1, .int .i64 b.2.2.1, .int .i64 b.2.2.2]
def celV (c : Cel) : Value := .agg #[.int .i64 c.1, .int .i64 c.2.1, .int .i64 c.2.2]
theorem cells1_in (F : Fence) (n : Nat) (h6 : F.fn 60) (hro : F.round = none) (hn : 1 ≤ n) (l Bn n₀ : Nat) (b : Cel × Cel) (h1 : Near b.1 1000) (h2 : Near b.2 1000) (hBn0 : Bn < n₀) (J Jx : List Cel → World → Prop)
    (hY : ∀ pre x W, J pre W → pre.length < (boxL b).length → YieldAt F (n - 1) Try.prog l #[celV x] W fun e W' =>
      (e = .returned (.bool true) ∧ J (pre ++ [x]) W' ∧ Below n₀ W W') ∨ (e = .returned (.bool false) ∧ Jx (pre ++ [x]) W'))
    (W : World) (hW : W.heap[Bn]? = some (.cells (boxCells b) 47 (0, 0))) (h0 : J [] W) :
    CallsIn F n Try.prog 60 #[.func (.yield l) #[] #[], .pointer (some ⟨Bn, 0, none⟩)] W fun e W' => (∃ v, e = .returned v) ∧
      ((∃ ys, ys = boxL b ∧ J ys W') ∨ (∃ pre, pre <+: boxL b ∧ Jx pre W')) := by
  obtain ⟨⟨lx, ly, lz⟩, ⟨ux, uy, uz⟩⟩ := b
  unfold Near at h1 h2
  unfold boxCells at hW
  dsimp only at h1 h2 hW
  have hL : boxL ((lx, ly, lz), (ux, uy, uz)) = rowX ly lz (uy + 1 - ly).toNat (uz + 1 - lz).toNat lx (ux + 1 - lx).toNat := rfl
  generalize boxL ((lx, ly, lz), (ux, uy, uz)) = xs at hY hL ⊢
  have hat : ∀ W', Below n₀ W W' → W'.heap[Bn]? = some (.cells #[.int .i64 lx, .int .i64 ly, .int .i64 lz, .int .i64 ux, .int .i64 uy, .int .i64 uz] 47 (0, 0)) := fun W' h => (h.block _ hBn0).trans hW
  have hcell : ∀ W', Below n₀ W W' → W'.cell? ⟨Bn, 0, none⟩ = some (.int .i64 lx) ∧ W'.cell? ⟨Bn, 1, none⟩ = some (.int .i64 ly) ∧ W'.cell? ⟨Bn, 2, none⟩ = some (.int .i64 lz) ∧ W'.cell? ⟨Bn, 3, none⟩ = some (.int .i64 ux) ∧ W'.cell? ⟨Bn, 4, none⟩ = some (.int .i64 uy) ∧ W'.cell? ⟨Bn, 5, none⟩ = some (.int .i64 uz) := fun W' h => by
    have zl := fun j => cell_of_row W' Bn j _ _ _ (hat W' h)
    have z0 := zl 0
    have z1 := zl 1
    have z2 := zl 2
    have z3 := zl 3
    have z4 := zl 4
    have z5 := zl 5
    simp at z0 z1 z2 z3 z4 z5
    exact ⟨z0, z1, z2, z3, z4, z5⟩
  clear hat hW
  have HL := Lib.hid hL
  clear hL
  obtain ⟨d0, d1, d2, d3, d4, d5⟩ := hcell W (Below.refl _ _)
  refine callsIn_of_wp Try.func60 rfl h6 ?_ hro
  simp only [Try.ntmps60, List.size_toArray, List.length_cons, List.length_nil, Nat.reduceAdd, Nat.reduceSub, Array.replicate_succ, Array.replicate_zero, List.push_toArray, List.append_toArray, List.nil_append, List.cons_append]
  gi_wp2
  gi_loopw [3] (fun p wr => ∃ (x : Int) (r : Nat) (pre : List Cel), p = .int .i64 x ∧ lx ≤ x ∧ x ≤ ux + 1 + (lx - ux - 1).toNat ∧ r = (ux + 1 - x).toNat ∧ xs = pre ++ rowX ly lz (uy + 1 - ly).toNat (uz + 1 - lz).toNat x r ∧ J pre wr ∧ Below n₀ W wr) (fun p _ => (ux + 1 - intOf p).toNat)
  case atStart => exact ⟨lx, _, [], rfl, by omega, by omega, rfl, HL.out, h0, Below.refl _ _⟩
  case round =>
    obtain ⟨x, r, pre, rfl, hx1, hx2, hr, hL, hJ, hB⟩ := hrel
    have HL1 := Lib.hid hL
    clear hL HL d0 d1 d2 d3 d4 d5 h0
    rename World => w1
    obtain ⟨d0, d1, d2, d3, d4, d5⟩ := hcell w1 hB
    cases r with
    | zero =>
      have hx : ¬ x ≤ ux := by omega
      clear hr
      gi_wp2
      go_end0
      exact ⟨⟨_, rfl⟩, .inl (by have := HL1.out; simp [rowX, upFrom] at this; rw [this]; exact hJ)⟩
    | succ r =>
      have hx : x ≤ ux := by omega
      have hr' : r = (ux + 1 - (x + 1)).toNat := by omega
      have wx := wrapL (n := x + 1) (by omega)
      have HL2 : Hid (xs = pre ++ (rowY x lz (uz + 1 - lz).toNat ly (uy + 1 - ly).toNat ++ rowX ly lz (uy + 1 - ly).toNat (uz + 1 - lz).toNat (x + 1) r)) := Lib.hid (by rw [HL1.out, rowX_succ])
      obtain ⟨RX, hRX⟩ : ∃ RX, RX = rowX ly lz (uy + 1 - ly).toNat (uz + 1 - lz).toNat (x + 1) r := ⟨_, rfl⟩
      rw [← hRX] at HL2
      have HRX := Lib.hid hRX
      clear hr HL1 hRX
      gi_wp2
      gi_loopw [4] (fun p wr => ∃ (y : Int) (s : Nat) (pre : List Cel), p = .int .i64 y ∧ ly ≤ y ∧ y ≤ uy + 1 + (ly - uy - 1).toNat ∧ s = (uy + 1 - y).toNat ∧ Hid (xs = pre ++ (rowY x lz (uz + 1 - lz).toNat y s ++ RX)) ∧ J pre wr ∧ Below n₀ W wr) (fun p _ => (uy + 1 - intOf p).toNat)
      case atStart => exact ⟨ly, _, pre, rfl, by omega, by omega, rfl, HL2, hJ, hB⟩
      case round =>
        obtain ⟨y, s, pre, rfl, hy1, hy2, hs, HL, hJ, hB⟩ := hrel
        clear HL2 d0 d1 d2 d3 d4 d5
        rename World => w2
        obtain ⟨d0, d1, d2, d3, d4, d5⟩ := hcell w2 hB
        cases s with
        | zero =>
          have hy : ¬ y ≤ uy := by omega
          clear hs
          gi_wp2
          go_roundw
          case rel => exact ⟨x + 1, r, pre, rfl, by omega, by omega, hr', by rw [HL.out, HRX.out]; simp [rowY, upFrom], hJ, hB⟩
          case measure => simp [intOf]; omega
        | succ s =>
          have hy : y ≤ uy := by omega
          have hs' : s = (uy + 1 - (y + 1)).toNat := by omega
          have wy := wrapL (n := y + 1) (by omega)
          have HL2 : Hid (xs = pre ++ (rowZ x y lz (uz + 1 - lz).toNat ++ (rowY x lz (uz + 1 - lz).toNat (y + 1) s ++ RX))) := Lib.hid (by rw [HL.out, rowY_succ, List.append_assoc])
          obtain ⟨RY, hRY⟩ : ∃ RY, RY = rowY x lz (uz + 1 - lz).toNat (y + 1) s ++ RX := ⟨_, rfl⟩
          rw [← hRY] at HL2
          have HRY := Lib.hid hRY
          clear hs HL hRY
          gi_wp2
          gi_loopw [5] (fun p wr => ∃ (z : Int) (t : Nat) (pre : List Cel), p = .int .i64 z ∧ lz ≤ z ∧ z ≤ uz + 1 + (lz - uz - 1).toNat ∧ t = (uz + 1 - z).toNat ∧ Hid (xs = pre ++ (rowZ x y z t ++ RY)) ∧ J pre wr ∧ Below n₀ W wr) (fun p _ => (uz + 1 - intOf p).toNat)
          case atStart => exact ⟨lz, _, pre, rfl, by omega, by omega, rfl, HL2, hJ, hB⟩
          case round =>
            obtain ⟨z, t, pre, rfl, hz1, hz2, ht, HL, hJ, hB⟩ := hrel
            clear HL2 d0 d1 d2 d3 d4 d5
            rename World => w3
            obtain ⟨d0, d1, d2, d3, d4, d5⟩ := hcell w3 hB
            cases t with
            | zero =>
              have hz : ¬ z ≤ uz := by omega
              clear ht
              gi_wp2
              go_roundw
              case rel => exact ⟨y + 1, s, pre, rfl, by omega, by omega, hs', Lib.hid (by rw [HL.out, HRY.out]; simp [rowZ, upFrom]), hJ, hB⟩
              case measure => simp [intOf]; omega
            | succ t =>
              have hz : z ≤ uz := by omega
              have ht' : t = (uz + 1 - (z + 1)).toNat := by omega
              have wz := wrapL (n := z + 1) (by omega)
              have HL2 : Hid (xs = (pre ++ [(x, y, z)]) ++ (rowZ x y (z + 1) t ++ RY)) := Lib.hid (by rw [HL.out, rowZ_succ]; simp)
              obtain ⟨fn, tmps, assign, body, hyd, hR⟩ := hY pre (x, y, z) w3 hJ (by rw [HL2.out]; simp)
              unfold celV at hyd
              dsimp only at hyd
              clear ht HL hY
              gi_wp2
              refine hR.mono ?_
              rintro e w4 (⟨rfl, hJ4, hk4⟩ | ⟨rfl, hJx4⟩)
              · have hB4 := hB.trans hk4
                clear hJ hB hk4 d0 d1 d2 d3 d4 d5 hyd hR
                gi_wp2
                go_roundw
                case rel => exact ⟨z + 1, t, _, rfl, by omega, by omega, ht', HL2, hJ4, hB4⟩
                case measure => simp [intOf]; omega
              · clear hJ hB d0 d1 d2 d3 d4 d5 hyd hR
                gi_wp2
                refine bodyPost_ret (results_none rfl _ _ _) rfl ?_
                exact ⟨⟨_, rfl⟩, .inr ⟨_, ⟨_, HL2.out.symm⟩, hJx4⟩⟩
theorem cells_stops (F : Fence) (n : Nat) (h6 : F.fn 60) (hro : F.round = none) (hn : 1 ≤ n) (Bn n₀ : Nat) (b : Cel × Cel) (h1 : Near b.1 1000) (h2 : Near b.2 1000) (hBn0 : Bn < n₀) (w : World) (hn₀ : n₀ ≤ w.heap.size)
    (hW : w.heap[Bn]? = some (.cells (boxCells b) 47 (0, 0))) :
    SeqStopsK F n Try.prog 60 #[.pointer (some ⟨Bn, 0, none⟩)] (fun x : Cel => #[celV x]) (Below n₀) (fun ys => ys = boxL b) (fun pre => pre <+: boxL b) (boxL b).length w := fun l J Jx W hW' _ _ hY h0 =>
  cells1_in F n h6 hro hn l Bn n₀ b h1 h2 hBn0 J Jx hY W ((hW'.block Bn (Nat.lt_of_lt_of_le hBn0 hn₀)).trans hW) h0
theorem cells_in (b : Cel × Cel) (w : World) :
    Calls Try.prog 43 #[boxV b] w fun e w' => e = .returned (.func (.func 60) #[] #[.pointer (some ⟨w.heap.size, 0, none⟩)]) ∧ w' = w.alloc (.cells (boxCells b) 47) := by
  obtain ⟨⟨lx, ly, lz⟩, ⟨ux, uy, uz⟩⟩ := b
  unfold boxV boxCells
  dsimp only
  go_enter Try.func43, Try.ntmps43
  go_wp2
  go_ret
  exact ⟨rfl, rfl⟩
end Go.Proofs
end

section
/- slices.AppendSeq and slices.Collect of cells. -/
namespace Go.Proofs
open Go.RowKit Go.Shelf
set_option maxHeartbeats 8000000
set_option maxRecDepth 1000000
attribute [local go_sem] Oper.semAt_some
/-- A block of one cell of the document's: three numbers. -/
def BoxedC (W : World) (B : Nat) (c : Cel) : Prop := W.heap[B]? = some (.cells #[.int .i64 c.1, .int .i64 c.2.1, .int .i64 c.2.2] 32 (0, 0))
theorem BoxedC.own {β : Type} (B : Nat) (f : β → Cel) : Go.Own (fun s W => BoxedC W B (f s)) := fun s X Y row hs hg hrow =>
  (hg.block B (Array.getElem?_eq_some_iff.1 hs).1 (fun e' => by obtain ⟨o, ho, hc⟩ := hrow B e'.symm; rw [show X.heap[B]? = _ from hs] at ho; cases ho; cases hc)).trans hs
theorem BoxedC.cell {W : World} {B : Nat} {c : Cel} (h : BoxedC W B c) : W.cell? ⟨B, 0, none⟩ = some (.int .i64 c.1) ∧ W.cell? ⟨B, 1, none⟩ = some (.int .i64 c.2.1) ∧ W.cell? ⟨B, 2, none⟩ = some (.int .i64 c.2.2) := by
  have zl := fun j => cell_of_row W B j _ _ _ h
  have z0 := zl 0
  have z1 := zl 1
  have z2 := zl 2
  simp at z0 z1 z2
  exact ⟨z0, z1, z2⟩
theorem cell_three_newC (w : World) (c : Cel) (t : TypeId) : ∀ j u, (encC c)[j]? = some u → (w.alloc (.cells #[.int .i64 c.1, .int .i64 c.2.1, .int .i64 c.2.2] t)).cell? ((⟨w.heap.size, 0, none⟩ : Addr).add j) = some u := by
  intro j u hj
  match j, hj with
  | 0, hj => simp [encC] at hj; subst hj; simp [Addr.add]
  | 1, hj => simp [encC] at hj; subst hj; simp [Addr.add]
  | 2, hj => simp [encC] at hj; subst hj; simp [Addr.add]
theorem appendSeq_in (F : Fence) (n : Nat) (h84 : F.fn 59) (hro : F.round = none) (hn : 3 ≤ n) (gf : Nat) (lb : Array Value) (hgf : F.fn gf) (eg : ∀ args w, (callFunc gf args).run Try.prog w = .ok (.enter gf args) w)
    (xs : List Cel) (hlen : xs.length ≤ 1000000) (w : World)
    (hseq : ∀ w0, Below w.heap.size w w0 → SeqStopsK F (n - 1) Try.prog gf lb (fun x : Cel => #[celV x]) (Below w.heap.size) (fun ys => ys = xs) (fun pre => pre <+: xs) xs.length w0) :
    CallsIn F n Try.prog 59 #[.slice none 0 0, .func (.func gf) #[] lb] w fun e W' => ∃ v, e = .returned v ∧ Own W' w.heap.size v xs ∧ Below w.heap.size w W' := by
  have h1 : 1 ≤ n := by omega
  obtain ⟨j0, hj, hy0, hy1, hy2⟩ := info_parts (P := Try.prog) (e := 32) (z := .agg #[.int .i64 0, .int .i64 0, .int .i64 0]) (size := 3) (bytes := 24) (by kernel_rfl)
  refine callsIn_of_wp_marks Try.func59 rfl h84 ?_ hro
  simp only [Try.ntmps59, List.size_toArray, List.length_cons, List.length_nil, Nat.reduceAdd, Nat.reduceSub, Array.replicate_succ, Array.replicate_zero, List.push_toArray, List.append_toArray, List.nil_append, List.cons_append]
  gi_wp2
  have bO := Boxed.new w 22 (.slice none 0 0)
  have hB0 : Below w.heap.size w (w.alloc (.cells #[.slice none 0 0] 22)) := (Below.refl _ w).alloc (Nat.le_refl _) _
  have hsz : (w.alloc (.cells #[.slice none 0 0] 22)).heap.size = w.heap.size + 1 := by simp
  obtain ⟨W0, hW0⟩ : ∃ W0, w.alloc (.cells #[.slice none 0 0] 22) = W0 := ⟨_, rfl⟩
  rw [hW0] at bO hB0 hsz ⊢
  clear hW0
  refine wpIn_rangeFunc_ownH hro h1 (gf := gf) (lb := lb) rfl hgf eg
    (hseq W0 hB0) belowK_t (belowK_b (by omega)) (Below.refl _ _) (fun _ => rfl)
    (fun pre W => (∃ v, Boxed W w.heap.size 22 v ∧ W.ownsRow w.heap.size 32 3 v pre.length (flatC pre) ∧ True) ∧ Below w.heap.size w W)
    (fun _ _ _ => False)
    (OwnFrom.and (Go.Own.from (holdsRow_own w.heap.size w.heap.size 22 32 3 (fun pre : List Cel => pre.length) flatC (fun _ _ => True)) _) (ownFrom_below (Nat.le_refl _) (by omega)))
    (fun _ _ _ _ _ hs _ _ => hs)
    ⟨⟨_, bO, World.ownsRow_nil _ _ _ _, trivial⟩, hB0⟩
    (fun x a' W => ∃ Bx, w.heap.size < Bx ∧ BoxedC W Bx x ∧ a' = { tmps := #[.slice none 0 0, .func (.func gf) #[] lb, .pointer (some ⟨w.heap.size, 0, none⟩), undef, .slice none 0 0, .pointer (some ⟨Bx, 0, none⟩), .func (.func gf) #[] lb, celV x, undef, undef, undef, undef, undef], defers := [] })
    (fun x a' _ X Y row hs hg hr => by obtain ⟨Bx, h1, h2, h3⟩ := hs; exact ⟨Bx, h1, BoxedC.own Bx (fun (_ : Unit) => x) () X Y row h2 hg (fun r e => (hr r e).2), h3⟩)
    ?assign ?body ?done ?stop
  case assign =>
    rintro l pre ⟨x, y, z⟩ W K ⟨⟨v, bv, hrow, _⟩, hB⟩ hK
    unfold celV at hK ⊢
    dsimp only at hK ⊢
    gi_wp2
    exact hK _ _ ((KeepsOthers.alloc _ _).from _) ((Below.refl _ W).alloc hB.size _) ⟨⟨v, bv.alloc _, hrow.alloc _, trivial⟩, hB.alloc hB.size _⟩ ⟨W.heap.size, bv.lt, World.alloc_heap_new W _, rfl⟩
  case body =>
    rintro l pre ⟨x, y, z⟩ a' W hl ⟨r, hr⟩ ⟨⟨v, bv, hrow, _⟩, hB⟩ ⟨Bx, hBx, bx, rfl⟩ hlt
    have cv := bv.cell
    have fv := bv.frozen
    obtain ⟨c0, c1, c2⟩ := bx.cell
    dsimp only at c0 c1 c2
    gi_wp2_with (gi_at_builtin; refine wpListIn_append_own _ rfl _ _ 22 rfl w.heap.size 32 j0 _ 3 24 Try.underlying22 hj hy0 hy1 hy2 rfl (by decide) _ pre.length (flatC pre) rfl (hrow.alloc _) ⟨W.heap.size, 0, none⟩ 1 1 (encC (x, y, z)) rfl rfl (cell_three_newC _ (x, y, z) _) ?cB1 ?cC1 ?cD1 ?cE1 ?_)
    case cB1 => intro u hu; simp [encC] at hu; rcases hu with rfl | rfl | rfl <;> rfl
    case cC1 => unfold maxLen; omega
    case cD1 => omega
    case cE1 => simp; have := hB.size; omega
    intro v' w1 hown' hgrow _
    obtain ⟨g', cap', rfl⟩ := ownsRow_succ hown'
    obtain ⟨hv1, hv2, hr2, hk2, hb2⟩ := bv.appended (by decide) hrow hB.size (Nat.le_refl _) hown' hgrow
    have hc1 := hv1.cell
    have hf1 := hv1.frozen
    clear cv fv c0 c1 c2
    gi_wp2
    exact ⟨hk2.from _, hb2, ⟨_, hv2, by rw [flatC_append, List.length_append]; simpa [flatC] using hr2, trivial⟩, hB.trans hb2⟩
  case done =>
    rintro D ys W hD rfl ⟨⟨v, bv, hrow, _⟩, hB⟩ hK
    have cS := bv.cell
    gi_wp2
    refine ⟨by simp, .inl ⟨_, _, rfl, run_takeDeferred hK, ?_⟩⟩
    exact ⟨_, results_tmp rfl _ _ _, v, rfl, ownsRow_putObj hrow _ hK rfl, hB.trans (belowK_b (w := w) (Nat.le_refl _) W D _ _ (by omega) hK rfl rfl)⟩
  case stop =>
    rintro D c pre W _ _ h _
    exact h.elim
theorem collect_ok (gf : Nat) (lb : Array Value) (eg : ∀ args w, (callFunc gf args).run Try.prog w = .ok (.enter gf args) w)
    (xs : List Cel) (hlen : xs.length ≤ 1000000) (w : World)
    (hseq : ∀ w0, Below w.heap.size w w0 → SeqStopsK Fence.wide 2 Try.prog gf lb (fun x : Cel => #[celV x]) (Below w.heap.size) (fun ys => ys = xs) (fun pre => pre <+: xs) xs.length w0) :
    Calls Try.prog 42 #[.func (.func gf) #[] lb] w fun e W' => ∃ v, e = .returned v ∧ Own W' w.heap.size v xs ∧ Below w.heap.size w W' := by
  have h1 := fun W (hW : Below w.heap.size w W) (hs : W.heap.size = w.heap.size) => callsIn_wide.1 (appendSeq_in Fence.wide 3 trivial rfl (Nat.le_refl _) gf lb trivial eg xs hlen W (fun w0 hw0 => by rw [hs] at hw0 ⊢; exact hseq w0 (hW.trans hw0)))
  have h2 := h1 w (Below.refl _ _) rfl
  clear h1 hseq
  go_enter Try.func42, Try.ntmps42
  go_wp2_with (go_at_call 59; refine h2.mono ?_; rintro e w2 ⟨v, rfl, hown, hB⟩)
  go_ret
  exact ⟨_, rfl, hown, hB⟩
end Go.Proofs
end
