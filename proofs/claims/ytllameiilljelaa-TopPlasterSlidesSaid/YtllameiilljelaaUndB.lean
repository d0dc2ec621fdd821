/- insert.undercuts: the iterator over the cells that come to a cell. -/
import Derived.Test.YtllameiilljelaaHeldF
import Derived.Test.YtllameiilljelaaInsE
import Derived.RangeFuncNested
import Derived.RangeFuncBound
import Derived.RangeFuncCalls
import Derived.RangeFuncLeaves
import Derived.RangeFuncBox
import Derived.Shelf.Abstract
import Derived.Shelf.RegionOpen
import Derived.WalkKit
import Derived.OwnWalkIn
import Derived.TacticsInMore
import Derived.LoopNIn
import Derived.LoopIn
import Derived.Stop.RegionWithIn
namespace Go.Proofs
open Go.RowKit Go.Shelf
set_option maxHeartbeats 8000000
set_option maxRecDepth 1000000
attribute [local go_sem] Oper.semAt_some
theorem fence_wide_fn (f : FuncId) : Fence.wide.fn f = True := rfl
attribute [local go_sem] fence_wide_fn
/-- Where the iterator's variables lie. -/
def BelAt (Bc Bd Bo m : Nat) (b : Cel × Cel) (c d : Cel) (W : World) : Prop := W.heap[Bc]? = some (.cells (celA c) 26 (0, 0)) ∧ W.heap[Bd]? = some (.cells (celA d) 26 (0, 0)) ∧ W.heap[Bo]? = some (.cells (obsA m b) 56 (0, 0))
theorem below1_in (n : Nat) (hn : 1 ≤ n) (l Bc Bd Bo m K : Nat) (b : Cel × Cel) (c d : Cel) (h1 : Near b.1 1000) (h2 : Near b.2 1000) (hc : Near c 1000)
    (hd : (-8 ≤ d.1 ∧ d.1 ≤ 8) ∧ (-8 ≤ d.2.1 ∧ d.2.1 ≤ 8) ∧ (1 ≤ d.2.2 ∧ d.2.2 ≤ 8)) (hw : b.1.1 ≤ b.2.1 ∧ b.1.2.1 ≤ b.2.2.1 ∧ b.1.2.2 ≤ b.2.2.2) (hK : Steps b c d K) (J : Nat → World → Prop) (Jx : World → Prop)
    (hJ : ∀ j A B, J j A → Below A.heap.size A B → J j B) (hJa : ∀ j A, J j A → BelAt Bc Bd Bo m b c d A)
    (hY : ∀ (j : Nat) W, j < K → J j W → YieldAt Fence.wide (n - 1) Try.prog l #[.agg (celA (stepC c d j))] W fun e W' => (e = .returned (.bool true) ∧ J (j + 1) W') ∨ (e = .returned (.bool false) ∧ Jx W'))
    (W : World) (h0 : J 0 W) :
    CallsIn Fence.wide n Try.prog 68 #[.func (.yield l) #[] #[], .pointer (some ⟨Bc, 0, none⟩), .pointer (some ⟨Bd, 0, none⟩), .pointer (some ⟨Bo, 0, none⟩)] W fun e W' => (∃ v, e = .returned v) ∧ (J K W' ∨ Jx W') := by
  refine callsIn_of_wp Try.func68 rfl trivial ?_ rfl
  simp only [Try.ntmps68, List.size_toArray, List.length_cons, List.length_nil, Nat.reduceAdd, Nat.reduceSub, Array.replicate_succ, Array.replicate_zero, List.push_toArray, List.append_toArray, List.nil_append, List.cons_append]
  gi_wp2
  gi_loopw [5] (fun p wr => ∃ j : Nat, p = .int .i64 j ∧ j ≤ K ∧ J j wr) (fun p _ => K + 1 - (intOf p).toNat)
  case atStart => exact ⟨0, rfl, Nat.zero_le _, h0⟩
  case round =>
    obtain ⟨j, rfl, hj, hJj⟩ := hrel
    clear h0
    rename World => w1
    obtain ⟨x, y, z⟩ := c
    obtain ⟨dx, dy, dz⟩ := d
    have hwn := steps_way hK hj h1 h2 hc hd
    have hcn := hc.mono (show (1000 : Int) ≤ 3000 by omega)
    have kW := fun V => way_ok dx dy dz j hd.1 hd.2.1 hd.2.2 (by have := steps_le hK h1 hc; omega) V
    have kM := fun V => insMinus_ok x y z (wayC (dx, dy, dz) j).1 (wayC (dx, dy, dz) j).2.1 (wayC (dx, dy, dz) j).2.2 V hcn hwn
    unfold wayC at kM
    dsimp only at kM
    have kk : ∀ V, Below w1.heap.size w1 V → (V.cell? ⟨Bc, 0, none⟩ = some (.int .i64 x) ∧ V.cell? ⟨Bc, 1, none⟩ = some (.int .i64 y) ∧ V.cell? ⟨Bc, 2, none⟩ = some (.int .i64 z)) ∧ V.cell? ⟨Bd, 0, none⟩ = some (.int .i64 dx) ∧ V.cell? ⟨Bd, 1, none⟩ = some (.int .i64 dy) ∧ V.cell? ⟨Bd, 2, none⟩ = some (.int .i64 dz) := fun V h => by
      obtain ⟨hC, hD, hO⟩ := hJa _ _ (hJ _ _ _ hJj h)
      unfold celA at hC hD
      exact ⟨(three_cells hC).1, (three_cells hD).1⟩
    have hX : Below w1.heap.size w1 w1 := Below.refl _ _
    obtain ⟨⟨d0, d1, d2⟩, d3, d4, d5⟩ := kk _ hX
    have hXd := hX.drew
    obtain ⟨⟨e0, e1, e2⟩, e3, e4, e5⟩ := kk _ hXd
    have hXa := hXd.alloc hXd.size (.cells #[.int .i64 0, .int .i64 0, .int .i64 0] 26)
    have hrow : (w1.drew.alloc (.cells #[.int .i64 0, .int .i64 0, .int .i64 0] 26)).heap[w1.heap.size]? = some (.cells #[.int .i64 0, .int .i64 0, .int .i64 0] 26 (0, 0)) := heap_alloc_new w1.drew (.cells #[.int .i64 0, .int .i64 0, .int .i64 0] 26)
    obtain ⟨⟨s0, s1, s2⟩, g0, g1, g2⟩ := three_cells hrow
    have hXb : Below w1.heap.size w1 ((w1.alloc (.cells #[.int .i64 0, .int .i64 0, .int .i64 0] 26)).drew) := (hX.alloc hX.size (.cells #[.int .i64 0, .int .i64 0, .int .i64 0] 26)).drew
    obtain ⟨⟨p0, p1, p2⟩, p3, p4, p5⟩ := kk _ hXa
    obtain ⟨⟨r0, r1, r2⟩, r3, r4, r5⟩ := kk _ hXb
    obtain ⟨hC, hD, hO⟩ := hJa _ _ hJj
    have hBc : Bc < w1.heap.size := (Array.getElem?_eq_some_iff.1 hC).1
    have hBd : Bd < w1.heap.size := (Array.getElem?_eq_some_iff.1 hD).1
    have nBc : ¬ Bc = w1.heap.size := by omega
    have nBd : ¬ Bd = w1.heap.size := by omega
    gi_wp2
    refine twoWays (C := fun B V => Below w1.heap.size w1 V ∧ V.heap[B]? = some (.cells #[.int .i64 (x - j * dx / dz), .int .i64 (y - j * dy / dz), .int .i64 (z - j)] 26 (0, 0))) (G := ?G) ?rest (fun key => ?main)
    case main =>
      gi_region_with (first
        | (gi_at_call 27; (first | refine ⟨trivial, (callsIn_wide.2 (kW _)).mono ?_⟩ | refine (callsIn_wide.2 (kW _)).mono ?_); rintro e w2 ⟨rfl, hYb⟩; (first | (have hXd := hXd.trans (hYb.mono hXd.size); have hXa := hXd.alloc hXd.size (.cells #[.int .i64 0, .int .i64 0, .int .i64 0] 26); have hrow := heap_alloc_new w2 (.cells #[.int .i64 0, .int .i64 0, .int .i64 0] 26); obtain ⟨⟨s0, s1, s2⟩, g0, g1, g2⟩ := three_cells hrow; obtain ⟨⟨e0, e1, e2⟩, e3, e4, e5⟩ := kk _ hXd) | (have hXa := hXa.trans (hYb.mono hXa.size); have hrow := (hYb.block _ (Array.getElem?_eq_some_iff.1 hrow).1).trans hrow; obtain ⟨⟨s0, s1, s2⟩, g0, g1, g2⟩ := three_cells hrow; obtain ⟨⟨e0, e1, e2⟩, e3, e4, e5⟩ := kk _ hXa)))
        | (gi_at_call 49; (first | refine ⟨trivial, (callsIn_wide.2 (kM _)).mono ?_⟩ | refine (callsIn_wide.2 (kM _)).mono ?_); rintro e w3 ⟨rfl, hZ⟩; (first | (have hXd := hXd.trans (hZ.mono hXd.size); have hXa := hXd.alloc hXd.size (.cells #[.int .i64 0, .int .i64 0, .int .i64 0] 26); have hrow := heap_alloc_new w3 (.cells #[.int .i64 0, .int .i64 0, .int .i64 0] 26); obtain ⟨⟨s0, s1, s2⟩, g0, g1, g2⟩ := three_cells hrow; obtain ⟨⟨e0, e1, e2⟩, e3, e4, e5⟩ := kk _ hXd) | (have hXa := hXa.trans (hZ.mono hXa.size); have hrow := (hZ.block _ (Array.getElem?_eq_some_iff.1 hrow).1).trans hrow; obtain ⟨⟨s0, s1, s2⟩, g0, g1, g2⟩ := three_cells hrow; obtain ⟨⟨e0, e1, e2⟩, e3, e4, e5⟩ := kk _ hXa))))
      all_goals first
        | (have hC : Below w1.heap.size w1 (w3.alloc (.cells #[.int .i64 (x - j * dx / dz), .int .i64 (y - j * dy / dz), .int .i64 (z - j)] 26)) ∧ (w3.alloc (.cells #[.int .i64 (x - j * dx / dz), .int .i64 (y - j * dy / dz), .int .i64 (z - j)] 26)).heap[w3.heap.size]? = some (.cells #[.int .i64 (x - j * dx / dz), .int .i64 (y - j * dy / dz), .int .i64 (z - j)] 26 (0, 0)) := ⟨hXd.alloc hXd.size _, heap_alloc_new w3 _⟩
           generalize w3.alloc (.cells #[.int .i64 (x - j * dx / dz), .int .i64 (y - j * dy / dz), .int .i64 (z - j)] 26) = Wf at hC ⊢
           generalize w3.heap.size = B at hC ⊢
           exact key B Wf hC)
        | (have hle : w1.heap.size ≤ w2.heap.size := hXd.size
           have hC : Below w1.heap.size w1 (((w3.setCell ⟨w2.heap.size, 0, none⟩ (.int .i64 (x - j * dx / dz))).setCell ⟨w2.heap.size, 1, none⟩ (.int .i64 (y - j * dy / dz))).setCell ⟨w2.heap.size, 2, none⟩ (.int .i64 (z - j))) ∧ (((w3.setCell ⟨w2.heap.size, 0, none⟩ (.int .i64 (x - j * dx / dz))).setCell ⟨w2.heap.size, 1, none⟩ (.int .i64 (y - j * dy / dz))).setCell ⟨w2.heap.size, 2, none⟩ (.int .i64 (z - j))).heap[w2.heap.size]? = some (.cells #[.int .i64 (x - j * dx / dz), .int .i64 (y - j * dy / dz), .int .i64 (z - j)] 26 (0, 0)) := ⟨(((hXa.setCell (p := ⟨w2.heap.size, 0, none⟩) hle (.int .i64 (x - j * dx / dz))).setCell (p := ⟨w2.heap.size, 1, none⟩) hle (.int .i64 (y - j * dy / dz))).setCell (p := ⟨w2.heap.size, 2, none⟩) hle (.int .i64 (z - j))), three_stored hrow⟩
           generalize (((w3.setCell ⟨w2.heap.size, 0, none⟩ (.int .i64 (x - j * dx / dz))).setCell ⟨w2.heap.size, 1, none⟩ (.int .i64 (y - j * dy / dz))).setCell ⟨w2.heap.size, 2, none⟩ (.int .i64 (z - j))) = Wf at hC ⊢
           generalize w2.heap.size = B at hC ⊢
           exact key B Wf hC)
        | (have hle : w1.heap.size ≤ w1.heap.size := Nat.le_refl _
           have hC : Below w1.heap.size w1 (((w3.setCell ⟨w1.heap.size, 0, none⟩ (.int .i64 (x - j * dx / dz))).setCell ⟨w1.heap.size, 1, none⟩ (.int .i64 (y - j * dy / dz))).setCell ⟨w1.heap.size, 2, none⟩ (.int .i64 (z - j))) ∧ (((w3.setCell ⟨w1.heap.size, 0, none⟩ (.int .i64 (x - j * dx / dz))).setCell ⟨w1.heap.size, 1, none⟩ (.int .i64 (y - j * dy / dz))).setCell ⟨w1.heap.size, 2, none⟩ (.int .i64 (z - j))).heap[w1.heap.size]? = some (.cells #[.int .i64 (x - j * dx / dz), .int .i64 (y - j * dy / dz), .int .i64 (z - j)] 26 (0, 0)) := ⟨(((hXa.setCell (p := ⟨w1.heap.size, 0, none⟩) hle (.int .i64 (x - j * dx / dz))).setCell (p := ⟨w1.heap.size, 1, none⟩) hle (.int .i64 (y - j * dy / dz))).setCell (p := ⟨w1.heap.size, 2, none⟩) hle (.int .i64 (z - j))), three_stored hrow⟩
           generalize (((w3.setCell ⟨w1.heap.size, 0, none⟩ (.int .i64 (x - j * dx / dz))).setCell ⟨w1.heap.size, 1, none⟩ (.int .i64 (y - j * dy / dz))).setCell ⟨w1.heap.size, 2, none⟩ (.int .i64 (z - j))) = Wf at hC ⊢
           exact key _ Wf hC)
    case' rest =>
      intro B V hC
      obtain ⟨hX2, hrow2⟩ := hC
    obtain ⟨⟨lx, ly, lz⟩, ⟨ux, uy, uz⟩⟩ := b
    have kO : ∀ V, Below w1.heap.size w1 V → V.cell? ⟨Bo, 1, none⟩ = some (.int .i64 lx) ∧ V.cell? ⟨Bo, 2, none⟩ = some (.int .i64 ly) ∧ V.cell? ⟨Bo, 3, none⟩ = some (.int .i64 lz) ∧ V.cell? ⟨Bo, 4, none⟩ = some (.int .i64 ux) ∧ V.cell? ⟨Bo, 5, none⟩ = some (.int .i64 uy) ∧ V.cell? ⟨Bo, 6, none⟩ = some (.int .i64 uz) := fun V h => by
      obtain ⟨_, _, hO⟩ := hJa _ _ (hJ _ _ _ hJj h)
      unfold obsA at hO
      have zl := fun j => cell_of_row V Bo j _ _ _ hO
      have z1 := zl 1
      have z2 := zl 2
      have z3 := zl 3
      have z4 := zl 4
      have z5 := zl 5
      have z6 := zl 6
      simp at z1 z2 z3 z4 z5 z6
      exact ⟨z1, z2, z3, z4, z5, z6⟩
    obtain ⟨q1, q2, q3, q4, q5, q6⟩ := kO _ hX2
    obtain ⟨⟨u0, u1, u2⟩, _⟩ := three_cells hrow2
    have kI := fun W => isIn_ok ((lx, ly, lz), (ux, uy, uz)) (x - j * dx / dz) (y - j * dy / dz) (z - j) hw W
    unfold boxV at kI
    dsimp only at kI
    clear kW kM kk p0 p1 p2 p3 p4 p5 r0 r1 r2 r3 r4 r5 d0 d1 d2 d3 d4 d5 e0 e1 e2 e3 e4 e5 s0 s1 s2 g0 g1 g2 hXd hXa hXb hrow hC hD hO nBc nBd hBc hBd kO
    by_cases hjK : j < K
    · have hin := hK.1 j hjK
      unfold stepC at hin
      dsimp only at hin
      rw [decide_eq_true hin] at kI
      gi_wp2
      refine (callsIn_wide.2 (kI _)).mono ?_
      rintro e w5 ⟨rfl, hZ⟩
      have hX3 := hX2.trans (hZ.mono hX2.size)
      have hrow3 := (hZ.block _ (Array.getElem?_eq_some_iff.1 hrow2).1).trans hrow2
      obtain ⟨⟨u0, u1, u2⟩, _⟩ := three_cells hrow3
      obtain ⟨fn, tmps, assign, body, hyd, hR⟩ := hY j w5 hjK (hJ _ _ _ hJj hX3)
      unfold celA stepC at hyd
      dsimp only at hyd
      gi_wp2
      refine hR.mono ?_
      rintro e w6 (⟨rfl, hJ'⟩ | ⟨rfl, hJx⟩)
      · have wj := wrapS (n := (j : Int) + 1) (by have := steps_le hK h1 hc; omega)
        clear hyd hR
        gi_wp2
        exact ⟨⟨j + 1, rfl, hjK, hJ'⟩, by simp [intOf]; omega⟩
      · clear hyd hR
        gi_wp2
        exact bodyPost_ret (results_none rfl _ _ _) rfl ⟨⟨_, rfl⟩, .inr hJx⟩
    · have hout : ¬ isInB ((lx, ly, lz), (ux, uy, uz)) (x - j * dx / dz, y - j * dy / dz, z - j) := by
        obtain rfl : j = K := by omega
        exact hK.2
      rw [decide_eq_false hout] at kI
      gi_wp2
      refine (callsIn_wide.2 (kI _)).mono ?_
      rintro e w5 ⟨rfl, hZ⟩
      have hX3 := hX2.trans (hZ.mono hX2.size)
      gi_wp2
      obtain rfl : j = K := by omega
      exact bodyPost_ret (results_none rfl _ _ _) rfl ⟨⟨_, rfl⟩, .inl (hJ _ _ _ hJj hX3)⟩
/-- The cells that come to a cell, from it on. -/
def stepL (c d : Cel) (K : Nat) : List Cel := (List.range K).map fun (j : Nat) => stepC c d j
theorem stepL_succ (c d : Cel) (j : Nat) : stepL c d (j + 1) = stepL c d j ++ [stepC c d j] := by
  unfold stepL
  rw [List.range_succ, List.map_append]
  rfl
theorem below_grown {A B : World} (h : Below A.heap.size A B) : A.grownBy B none := ⟨h.os, h.tape, h.output, h.size, fun i hi _ => h.block i hi⟩
theorem BelAt.below {Bc Bd Bo m : Nat} {b : Cel × Cel} {c d : Cel} {A B : World} (h : BelAt Bc Bd Bo m b c d A) (n : Nat) (hb : Below n A B) (hn : Bc < n ∧ Bd < n ∧ Bo < n) : BelAt Bc Bd Bo m b c d B :=
  ⟨(hb.block _ hn.1).trans h.1, (hb.block _ hn.2.1).trans h.2.1, (hb.block _ hn.2.2).trans h.2.2⟩
theorem BelAt.lt {Bc Bd Bo m : Nat} {b : Cel × Cel} {c d : Cel} {A : World} (h : BelAt Bc Bd Bo m b c d A) : Bc < A.heap.size ∧ Bd < A.heap.size ∧ Bo < A.heap.size :=
  ⟨(Array.getElem?_eq_some_iff.1 h.1).1, (Array.getElem?_eq_some_iff.1 h.2.1).1, (Array.getElem?_eq_some_iff.1 h.2.2).1⟩
theorem below_stopsK (n : Nat) (hn : 1 ≤ n) (Bc Bd Bo m K : Nat) (b : Cel × Cel) (c d : Cel) (h1 : Near b.1 1000) (h2 : Near b.2 1000) (hc : Near c 1000)
    (hd : (-8 ≤ d.1 ∧ d.1 ≤ 8) ∧ (-8 ≤ d.2.1 ∧ d.2.1 ≤ 8) ∧ (1 ≤ d.2.2 ∧ d.2.2 ≤ 8)) (hw : b.1.1 ≤ b.2.1 ∧ b.1.2.1 ≤ b.2.2.1 ∧ b.1.2.2 ≤ b.2.2.2) (hK : Steps b c d K) (Kp : World → World → Prop)
    (hKb : ∀ A B, Kp A B → BelAt Bc Bd Bo m b c d A → BelAt Bc Bd Bo m b c d B) (w : World) (hAt : BelAt Bc Bd Bo m b c d w) :
    SeqStopsK Fence.wide n Try.prog 68 #[.pointer (some ⟨Bc, 0, none⟩), .pointer (some ⟨Bd, 0, none⟩), .pointer (some ⟨Bo, 0, none⟩)] (fun x : Cel => #[cellV x]) Kp (fun ys => ys = stepL c d K) (fun _ => True) K w := fun l J Jx W hW hJ hJx hY h0 => by
  refine (below1_in n hn l Bc Bd Bo m K b c d h1 h2 hc hd hw hK (fun j A => J (stepL c d j) A ∧ BelAt Bc Bd Bo m b c d A) (fun A => ∃ pre, Jx pre A) (fun j A B h hAB => ⟨hJ _ A B none h.1 (below_grown hAB) (fun r e => by cases e), h.2.below _ hAB h.2.lt⟩) (fun j A h => h.2) (fun j W' hj h => ?_) W ⟨h0, hAt.below _ hW hAt.lt⟩).mono ?_
  · obtain ⟨fn, tmps, assign, body, hyd, hR⟩ := hY (stepL c d j) (stepC c d j) W' h.1 (by unfold stepL; simp [hj])
    refine ⟨fn, tmps, assign, body, hyd, hR.mono ?_⟩
    rintro e V (⟨rfl, hJ', hk⟩ | ⟨rfl, hJx'⟩)
    · exact .inl ⟨rfl, by rw [stepL_succ]; exact hJ', hKb _ _ hk h.2⟩
    · exact .inr ⟨rfl, _, hJx'⟩
  · rintro e V ⟨hv, ⟨hJ', _⟩ | ⟨pre, hJx'⟩⟩
    · exact ⟨hv, .inl ⟨_, rfl, hJ'⟩⟩
    · exact ⟨hv, .inr ⟨pre, trivial, hJx'⟩⟩
end Go.Proofs
