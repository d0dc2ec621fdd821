/- neighbours: the iterator over a cell's six neighbours. -/
import Derived.Test.YtgmcdnabgojaeaaUnP
import Derived.Test.YtgmcdnabgojaeaaGoodT
import Derived.RangeFuncNested
import Derived.RangeFuncBound
import Derived.RangeFuncCalls
import Derived.RangeFuncLeaves
import Derived.RangeFuncBox
import Derived.Shelf.Abstract
import Derived.Shelf.RegionOpen
import Derived.WalkKit
import Derived.OwnWalkIn
import Derived.TacticsInMore
import Derived.LoopNIn
import Derived.LoopIn
namespace Go.Proofs
open Go.RowKit Go.Shelf
set_option maxHeartbeats 8000000
set_option maxRecDepth 1000000
attribute [local go_sem] Oper.semAt_some
/-- A cell's neighbours, ascending. -/
def nearL (c : Cel) : List Cel := [(c.1 - 1, c.2.1, c.2.2), (c.1, c.2.1 - 1, c.2.2), (c.1, c.2.1, c.2.2 - 1), (c.1, c.2.1, c.2.2 + 1), (c.1, c.2.1 + 1, c.2.2), (c.1 + 1, c.2.1, c.2.2)]
def boxC (c : Cel) : Array Value := #[.int .i64 c.1, .int .i64 c.2.1, .int .i64 c.2.2]
def SameAt (B : Nat) (W W' : World) : Prop := W'.heap[B]? = W.heap[B]?
theorem neighbours1_in (F : Fence) (n : Nat) (h6 : F.fn 55) (hro : F.round = none) (hn : 1 ≤ n) (l Bn : Nat) (c : Cel) (hc : Near c 2000) (Kp : World → World → Prop) (hKb : ∀ A B, Kp A B → B.heap[Bn]? = A.heap[Bn]?) (J Jx : List Cel → World → Prop)
    (hY : ∀ pre x W, J pre W → pre.length < (nearL c).length → YieldAt F (n - 1) Try.prog l #[cellV x] W fun e W' =>
      (e = .returned (.bool true) ∧ J (pre ++ [x]) W' ∧ Kp W W') ∨ (e = .returned (.bool false) ∧ Jx (pre ++ [x]) W'))
    (W : World) (hW : W.heap[Bn]? = some (.cells (boxC c) 32 (0, 0))) (h0 : J [] W) :
    CallsIn F n Try.prog 55 #[.func (.yield l) #[] #[], .pointer (some ⟨Bn, 0, none⟩)] W fun e W' => (∃ v, e = .returned v) ∧
      ((∃ ys, ys = nearL c ∧ J ys W') ∨ (∃ pre, pre <+: nearL c ∧ Jx pre W')) := by
  obtain ⟨x, y, z⟩ := c
  unfold Near at hc
  unfold boxC at hW
  dsimp only at hc hW
  have hL : nearL (x, y, z) = [(x - 1, y, z), (x, y - 1, z), (x, y, z - 1), (x, y, z + 1), (x, y + 1, z), (x + 1, y, z)] := rfl
  rw [hL] at hY ⊢
  clear hL
  have hcell : ∀ W' : World, SameAt Bn W W' → W'.cell? ⟨Bn, 0, none⟩ = some (.int .i64 x) ∧ W'.cell? ⟨Bn, 1, none⟩ = some (.int .i64 y) ∧ W'.cell? ⟨Bn, 2, none⟩ = some (.int .i64 z) := fun W' h => by
    have zl := fun j => cell_of_row W' Bn j _ _ _ (Eq.trans h hW)
    have z0 := zl 0
    have z1 := zl 1
    have z2 := zl 2
    simp at z0 z1 z2
    exact ⟨z0, z1, z2⟩
  clear hW
  have a1 := wrapS (n := x - 1) (by omega)
  have a2 := wrapS (n := y - 1) (by omega)
  have a3 := wrapS (n := z - 1) (by omega)
  have a4 := wrapS (n := z + 1) (by omega)
  have a5 := wrapS (n := y + 1) (by omega)
  have a6 := wrapS (n := x + 1) (by omega)
  have hB : SameAt Bn W W := rfl
  obtain ⟨d0, d1, d2⟩ := hcell W hB
  obtain ⟨fn, tmps, assign, body, hyd, hR⟩ := hY [] (x - 1, y, z) W h0 (by simp)
  unfold cellV at hyd
  dsimp only at hyd
  refine callsIn_of_wp Try.func55 rfl h6 ?_ hro
  simp only [Try.ntmps55, List.size_toArray, List.length_cons, List.length_nil, Nat.reduceAdd, Nat.reduceSub, Array.replicate_succ, Array.replicate_zero, List.push_toArray, List.append_toArray, List.nil_append, List.cons_append]
  gi_wp2
  refine hR.mono ?_
  rintro e w1 (⟨rfl, hJ, hk⟩ | ⟨rfl, hJx⟩)
  rotate_left
  · clear d0 d1 d2 hyd hR
    gi_wp2
    refine ⟨fun _ h => (by cases h), ?_⟩
    gi_wp2
    go_end0
    exact ⟨⟨_, rfl⟩, .inr ⟨[(x - 1, y, z)], ⟨[(x, y - 1, z), (x, y, z - 1), (x, y, z + 1), (x, y + 1, z), (x + 1, y, z)], rfl⟩, hJx⟩⟩
  replace hB : SameAt Bn _ _ := Eq.trans (hKb _ _ hk) hB
  clear d0 d1 d2 hyd hR hk
  obtain ⟨d0, d1, d2⟩ := hcell w1 hB
  obtain ⟨fn, tmps, assign, body, hyd, hR⟩ := hY [(x - 1, y, z)] (x, y - 1, z) w1 hJ (by simp)
  unfold cellV at hyd
  dsimp only at hyd
  gi_wp2
  refine hR.mono ?_
  rintro e w2 (⟨rfl, hJ, hk⟩ | ⟨rfl, hJx⟩)
  rotate_left
  · clear d0 d1 d2 hyd hR
    gi_wp2
    refine ⟨fun _ h => (by cases h), ?_⟩
    gi_wp2
    go_end0
    exact ⟨⟨_, rfl⟩, .inr ⟨[(x - 1, y, z), (x, y - 1, z)], ⟨[(x, y, z - 1), (x, y, z + 1), (x, y + 1, z), (x + 1, y, z)], rfl⟩, hJx⟩⟩
  replace hB : SameAt Bn _ _ := Eq.trans (hKb _ _ hk) hB
  clear d0 d1 d2 hyd hR hk
  obtain ⟨d0, d1, d2⟩ := hcell w2 hB
  obtain ⟨fn, tmps, assign, body, hyd, hR⟩ := hY [(x - 1, y, z), (x, y - 1, z)] (x, y, z - 1) w2 hJ (by simp)
  unfold cellV at hyd
  dsimp only at hyd
  gi_wp2
  refine hR.mono ?_
  rintro e w3 (⟨rfl, hJ, hk⟩ | ⟨rfl, hJx⟩)
  rotate_left
  · clear d0 d1 d2 hyd hR
    gi_wp2
    refine ⟨fun _ h => (by cases h), ?_⟩
    gi_wp2
    go_end0
    exact ⟨⟨_, rfl⟩, .inr ⟨[(x - 1, y, z), (x, y - 1, z), (x, y, z - 1)], ⟨[(x, y, z + 1), (x, y + 1, z), (x + 1, y, z)], rfl⟩, hJx⟩⟩
  replace hB : SameAt Bn _ _ := Eq.trans (hKb _ _ hk) hB
  clear d0 d1 d2 hyd hR hk
  obtain ⟨d0, d1, d2⟩ := hcell w3 hB
  obtain ⟨fn, tmps, assign, body, hyd, hR⟩ := hY [(x - 1, y, z), (x, y - 1, z), (x, y, z - 1)] (x, y, z + 1) w3 hJ (by simp)
  unfold cellV at hyd
  dsimp only at hyd
  gi_wp2
  refine hR.mono ?_
  rintro e w4 (⟨rfl, hJ, hk⟩ | ⟨rfl, hJx⟩)
  rotate_left
  · clear d0 d1 d2 hyd hR
    gi_wp2
    refine ⟨fun _ h => (by cases h), ?_⟩
    gi_wp2
    go_end0
    exact ⟨⟨_, rfl⟩, .inr ⟨[(x - 1, y, z), (x, y - 1, z), (x, y, z - 1), (x, y, z + 1)], ⟨[(x, y + 1, z), (x + 1, y, z)], rfl⟩, hJx⟩⟩
  replace hB : SameAt Bn _ _ := Eq.trans (hKb _ _ hk) hB
  clear d0 d1 d2 hyd hR hk
  obtain ⟨d0, d1, d2⟩ := hcell w4 hB
  obtain ⟨fn, tmps, assign, body, hyd, hR⟩ := hY [(x - 1, y, z), (x, y - 1, z), (x, y, z - 1), (x, y, z + 1)] (x, y + 1, z) w4 hJ (by simp)
  unfold cellV at hyd
  dsimp only at hyd
  gi_wp2
  refine hR.mono ?_
  rintro e w5 (⟨rfl, hJ, hk⟩ | ⟨rfl, hJx⟩)
  rotate_left
  · clear d0 d1 d2 hyd hR
    gi_wp2
    refine ⟨fun _ h => (by cases h), ?_⟩
    gi_wp2
    go_end0
    exact ⟨⟨_, rfl⟩, .inr ⟨[(x - 1, y, z), (x, y - 1, z), (x, y, z - 1), (x, y, z + 1), (x, y + 1, z)], ⟨[(x + 1, y, z)], rfl⟩, hJx⟩⟩
  replace hB : SameAt Bn _ _ := Eq.trans (hKb _ _ hk) hB
  clear d0 d1 d2 hyd hR hk
  obtain ⟨d0, d1, d2⟩ := hcell w5 hB
  obtain ⟨fn, tmps, assign, body, hyd, hR⟩ := hY [(x - 1, y, z), (x, y - 1, z), (x, y, z - 1), (x, y, z + 1), (x, y + 1, z)] (x + 1, y, z) w5 hJ (by simp)
  unfold cellV at hyd
  dsimp only at hyd
  gi_wp2
  refine hR.mono ?_
  rintro e w6 (⟨rfl, hJ, hk⟩ | ⟨rfl, hJx⟩)
  rotate_left
  · clear d0 d1 d2 hyd hR
    gi_wp2
    go_end0
    exact ⟨⟨_, rfl⟩, .inr ⟨[(x - 1, y, z), (x, y - 1, z), (x, y, z - 1), (x, y, z + 1), (x, y + 1, z), (x + 1, y, z)], ⟨[], rfl⟩, hJx⟩⟩
  clear d0 d1 d2 hyd hR
  gi_wp2
  go_end0
  exact ⟨⟨_, rfl⟩, .inl ⟨_, rfl, hJ⟩⟩
theorem neighbours_stops (F : Fence) (n : Nat) (h6 : F.fn 55) (hro : F.round = none) (hn : 1 ≤ n) (Bn n₀ : Nat) (c : Cel) (hc : Near c 2000) (hBn0 : Bn < n₀) (w : World) (hn₀ : n₀ ≤ w.heap.size)
    (hW : w.heap[Bn]? = some (.cells (boxC c) 32 (0, 0))) :
    SeqStopsK F n Try.prog 55 #[.pointer (some ⟨Bn, 0, none⟩)] (fun x : Cel => #[cellV x]) (Below n₀) (fun ys => ys = nearL c) (fun pre => pre <+: nearL c) (nearL c).length w := fun l J Jx W hW' _ _ hY h0 =>
  neighbours1_in F n h6 hro hn l Bn c hc (Below n₀) (fun _ _ h => h.block _ hBn0) J Jx hY W ((hW'.block Bn (Nat.lt_of_lt_of_le hBn0 hn₀)).trans hW) h0
theorem neighbours_stopsK (F : Fence) (n : Nat) (h6 : F.fn 55) (hro : F.round = none) (hn : 1 ≤ n) (Bn : Nat) (c : Cel) (hc : Near c 2000) (Kp : World → World → Prop) (hKb : ∀ A B, Kp A B → B.heap[Bn]? = A.heap[Bn]?) (w : World) (hBn : Bn < w.heap.size)
    (hW : w.heap[Bn]? = some (.cells (boxC c) 32 (0, 0))) :
    SeqStopsK F n Try.prog 55 #[.pointer (some ⟨Bn, 0, none⟩)] (fun x : Cel => #[cellV x]) Kp (fun ys => ys = nearL c) (fun pre => pre <+: nearL c) (nearL c).length w := fun l J Jx W hW' _ _ hY h0 =>
  neighbours1_in F n h6 hro hn l Bn c hc Kp hKb J Jx hY W ((hW'.block Bn hBn).trans hW) h0
theorem neighbours_ok (c : Cel) (w : World) :
    Calls Try.prog 28 #[cellV c] w fun e w' => e = .returned (.func (.func 55) #[] #[.pointer (some ⟨w.heap.size, 0, none⟩)]) ∧ w' = w.alloc (.cells (boxC c) 32) := by
  obtain ⟨x, y, z⟩ := c
  unfold cellV boxC
  dsimp only
  go_enter Try.func28, Try.ntmps28
  go_wp2
  go_ret
  exact ⟨rfl, rfl⟩
end Go.Proofs
