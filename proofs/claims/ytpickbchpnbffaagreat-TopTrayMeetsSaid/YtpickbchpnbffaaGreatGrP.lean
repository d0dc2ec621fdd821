import Derived.Test.YtpickbchpnbffaaGreatInsR
import Derived.Laws.AppendOwnNone
import Derived.Test.YtpickbchpnbffaaGreatDistP
import Derived.RangeFuncNested
import Derived.RangeFuncBound
import Derived.RangeFuncCalls
import Derived.RangeFuncLeaves
import Derived.RangeFuncBox
import Derived.Shelf.Abstract
import Derived.Shelf.RegionOpen
import Derived.WalkKit
import Derived.OwnWalkIn
import Derived.TacticsInMore
import Derived.LoopNIn
import Derived.LoopIn
section
/- A part of what UnionR had: Own.mono, flatC_at3, flatC_len3, flatC_one3, own_of, row_one, sl_cells, wpList_a. -/
namespace Go.Proofs
open Go.RowKit
set_option maxHeartbeats 8000000
set_option maxRecDepth 1000000
theorem flatC_len3 (l : List Cel) : (flatC l).length = l.length * 3 := by
  induction l with
  | nil => rfl
  | cons c l ih => rw [flatC_cons]; simp [ih]; omega
theorem flatC_one3 {l : List Cel} : ∀ u ∈ flatC l, u.oneCell' = true := by
  induction l with
  | nil => intro u hu; simp [flatC] at hu
  | cons c l ih =>
    intro u hu
    rw [flatC_cons] at hu
    simp only [List.mem_cons] at hu
    rcases hu with rfl | rfl | rfl | hu
    · rfl
    · rfl
    · rfl
    · exact ih u hu
theorem flatC_at3 {l : List Cel} {j : Nat} {u : Value} (h : (flatC l)[j]? = some u) : ∃ c, l[j / 3]? = some c ∧ (j % 3 = 0 ∧ u = .int .i64 c.1 ∨ j % 3 = 1 ∧ u = .int .i64 c.2.1 ∨ j % 3 = 2 ∧ u = .int .i64 c.2.2) := by
  have hj : j < l.length * 3 := by
    have := (List.getElem?_eq_some_iff.1 h).1
    rwa [flatC_len3] at this
  have hk : j / 3 < l.length := by omega
  refine ⟨l[j/3], List.getElem?_eq_getElem hk, ?_⟩
  obtain ⟨h0, h1, h2⟩ := flatC_get (List.getElem?_eq_getElem hk)
  rcases (show j % 3 = 0 ∨ j % 3 = 1 ∨ j % 3 = 2 by omega) with hr | hr | hr
  · rw [show j / 3 * 3 = j by omega, h] at h0
    exact .inl ⟨hr, Option.some.inj h0⟩
  · rw [show j / 3 * 3 + 1 = j by omega, h] at h1
    exact .inr (.inl ⟨hr, Option.some.inj h1⟩)
  · rw [show j / 3 * 3 + 2 = j by omega, h] at h2
    exact .inr (.inr ⟨hr, Option.some.inj h2⟩)
theorem sl_cells {w : World} {a : Addr} {l : List Cel} (h : l ≠ [] → a.spot = none ∧ a.block < w.heap.size ∧ RowAt w a.block a.off l) (j : Nat) (u : Value) (hu : (flatC l)[j]? = some u) : w.cell? (a.add j) = some u := by
  obtain ⟨c, hc, hr⟩ := flatC_at3 hu
  obtain ⟨b, o, s⟩ := a
  obtain ⟨h1, h2, h3⟩ := h (fun e => by subst e; simp at hc)
  obtain rfl : s = none := h1
  obtain ⟨r0, r1, r2⟩ := h3 _ c hc
  have e : (⟨b, o, none⟩ : Addr).add j = ⟨b, o + j, none⟩ := by
    unfold Addr.add
    split
    · rename_i h; subst h; rfl
    · rfl
  rw [e]
  rcases hr with ⟨hr, rfl⟩ | ⟨hr, rfl⟩ | ⟨hr, rfl⟩
  · rw [show o + j = o + j / 3 * 3 by omega]; exact r0
  · rw [show o + j = o + j / 3 * 3 + 1 by omega]; exact r1
  · rw [show o + j = o + j / 3 * 3 + 2 by omega]; exact r2
theorem Own.mono {w : World} {B B' : Nat} {v : Value} {l : List Cel} (h : Own w B v l) (hB : B' ≤ B) : Own w B' v l := by
  refine ⟨h.1, ?_⟩
  rcases h.2 with h1 | ⟨g, cap, cur, rfl, hg, r⟩
  · exact .inl h1
  · exact .inr ⟨g, cap, cur, rfl, Nat.le_trans hB hg, r⟩
theorem own_of {w : World} {B n : Nat} {v : Value} {xs : List Value} {l : List Cel} (h : w.ownsRow B 34 3 v n xs) (hn : n = l.length) (hx : xs = flatC l) : Own w B v l := by
  subst hn hx
  exact h
/-- append, of a list of cells, to a row of the call's own. -/
theorem wpList_append_sl {w : World} {ops : Array Oper} {rest : List Oper} {o : Oper} {a : Act} {Q : Exit → Act → World → Prop} (hgd : o.guard = none) (s x : Operand)
    (ho : o.op = .call { callee := .builtin .append, args := #[s, x], argTypes := #[22, 22] }) (B : Nat) (hB : B ≤ w.heap.size) (v : Value) (l : List Cel) (hs : a.eval s = v) (hown : Own w B v l)
    (vx : Value) (m : List Cel) (hx : a.eval x = vx) (hm : Sl w vx m) (hn : l.length + m.length ≤ 1000000)
    (h : ∀ v' w', Own w' B v' (l ++ m) → Below B w w' → wpList Tryz.prog ops Q rest (a.put o.dst v') w') : wpList Tryz.prog ops Q (o :: rest) a w := by
  obtain ⟨j0, hj, hy0, hy1, hy2⟩ := info_parts (P := Tryz.prog) (e := 34) (z := .agg #[.int .i64 0, .int .i64 0, .int .i64 0]) (size := 3) (bytes := 24) (by kernel_rfl)
  rcases hm with ⟨rfl, rfl⟩ | ⟨ad, cap, rfl, hm⟩
  · refine wpList_append_own_none hgd s x _ ho B _ j0 3 Tryz.underlying22 hj v l.length (flatC l) hs hown hx (h v w ?_ (Below.refl _ _))
    rw [List.append_nil]
    exact hown
  · refine wpList_append_own w hgd s x _ ho B 34 j0 _ 3 24 Tryz.underlying22 hj hy0 hy1 hy2 rfl (by decide) v l.length (flatC l) hs hown ad m.length cap (flatC m) hx (flatC_len3 m) (sl_cells hm) flatC_one3 (by unfold maxLen; omega) (by omega) hB fun v' w' h1 h2 _ => h v' w' (own_of h1 List.length_append.symm (flatC_append l m).symm) ?_
    exact (Below.refl B w).grown h2 hB fun k hk => (hown.lt k hk).1
theorem row_one (w : World) (x y z : Int) : [(x, y, z)] ≠ [] → (⟨w.heap.size, 0, none⟩ : Addr).spot = none ∧ (⟨w.heap.size, 0, none⟩ : Addr).block < (w.alloc (.cells #[.int .i64 x, .int .i64 y, .int .i64 z] 34)).heap.size ∧ RowAt (w.alloc (.cells #[.int .i64 x, .int .i64 y, .int .i64 z] 34)) w.heap.size 0 [(x, y, z)] := fun _ => by
  refine ⟨rfl, by simp, fun i c h => ?_⟩
  match i, h with
  | 0, h =>
    simp at h
    subst h
    refine ⟨?_, ?_, ?_⟩ <;> go_simp
  | i + 1, h => simp at h
end Go.Proofs
end

section
/- neighbours: the iterator over a cell's six neighbours. -/
namespace Go.Proofs
open Go.RowKit Go.Shelf
set_option maxHeartbeats 8000000
set_option maxRecDepth 1000000
attribute [local go_sem] Oper.semAt_some
/-- A cell's neighbours, ascending. -/
def nearL (c : Cel) : List Cel := [(c.1 - 1, c.2.1, c.2.2), (c.1, c.2.1 - 1, c.2.2), (c.1, c.2.1, c.2.2 - 1), (c.1, c.2.1, c.2.2 + 1), (c.1, c.2.1 + 1, c.2.2), (c.1 + 1, c.2.1, c.2.2)]
def boxC (c : Cel) : Array Value := #[.int .i64 c.1, .int .i64 c.2.1, .int .i64 c.2.2]
def SameAt (B : Nat) (W W' : World) : Prop := W'.heap[B]? = W.heap[B]?
theorem neighbours1_in (F : Fence) (n : Nat) (h6 : F.fn 75) (hro : F.round = none) (hn : 1 ≤ n) (l Bn : Nat) (c : Cel) (hc : Near c 2000) (Kp : World → World → Prop) (hKb : ∀ A B, Kp A B → B.heap[Bn]? = A.heap[Bn]?) (J Jx : List Cel → World → Prop)
    (hY : ∀ pre x W, J pre W → pre.length < (nearL c).length → YieldAt F (n - 1) Tryz.prog l #[cellV x] W fun e W' =>
      (e = .returned (.bool true) ∧ J (pre ++ [x]) W' ∧ Kp W W') ∨ (e = .returned (.bool false) ∧ Jx (pre ++ [x]) W'))
    (W : World) (hW : W.heap[Bn]? = some (.cells (boxC c) 34 (0, 0))) (h0 : J [] W) :
    CallsIn F n Tryz.prog 75 #[.func (.yield l) #[] #[], .pointer (some ⟨Bn, 0, none⟩)] W fun e W' => (∃ v, e = .returned v) ∧
      ((∃ ys, ys = nearL c ∧ J ys W') ∨ (∃ pre, pre <+: nearL c ∧ Jx pre W')) := by
  obtain ⟨x, y, z⟩ := c
  unfold Near at hc
  unfold boxC at hW
  dsimp only at hc hW
  have hL : nearL (x, y, z) = [(x - 1, y, z), (x, y - 1, z), (x, y, z - 1), (x, y, z + 1), (x, y + 1, z), (x + 1, y, z)] := rfl
  rw [hL] at hY ⊢
  clear hL
  have hcell : ∀ W' : World, SameAt Bn W W' → W'.cell? ⟨Bn, 0, none⟩ = some (.int .i64 x) ∧ W'.cell? ⟨Bn, 1, none⟩ = some (.int .i64 y) ∧ W'.cell? ⟨Bn, 2, none⟩ = some (.int .i64 z) := fun W' h => by
    have zl := fun j => cell_of_row W' Bn j _ _ _ (Eq.trans h hW)
    have z0 := zl 0
    have z1 := zl 1
    have z2 := zl 2
    simp at z0 z1 z2
    exact ⟨z0, z1, z2⟩
  clear hW
  have a1 := wrapS (n := x - 1) (by omega)
  have a2 := wrapS (n := y - 1) (by omega)
  have a3 := wrapS (n := z - 1) (by omega)
  have a4 := wrapS (n := z + 1) (by omega)
  have a5 := wrapS (n := y + 1) (by omega)
  have a6 := wrapS (n := x + 1) (by omega)
  have hB : SameAt Bn W W := rfl
  obtain ⟨d0, d1, d2⟩ := hcell W hB
  obtain ⟨fn, tmps, assign, body, hyd, hR⟩ := hY [] (x - 1, y, z) W h0 (by simp)
  unfold cellV at hyd
  dsimp only at hyd
  refine callsIn_of_wp Tryz.func75 rfl h6 ?_ hro
  simp only [Tryz.ntmps75, List.size_toArray, List.length_cons, List.length_nil, Nat.reduceAdd, Nat.reduceSub, Array.replicate_succ, Array.replicate_zero, List.push_toArray, List.append_toArray, List.nil_append, List.cons_append]
  gi_wp2
  refine hR.mono ?_
  rintro e w1 (⟨rfl, hJ, hk⟩ | ⟨rfl, hJx⟩)
  rotate_left
  · clear d0 d1 d2 hyd hR
    gi_wp2
    refine ⟨fun _ h => (by cases h), ?_⟩
    gi_wp2
    go_end0
    exact ⟨⟨_, rfl⟩, .inr ⟨[(x - 1, y, z)], ⟨[(x, y - 1, z), (x, y, z - 1), (x, y, z + 1), (x, y + 1, z), (x + 1, y, z)], rfl⟩, hJx⟩⟩
  replace hB : SameAt Bn _ _ := Eq.trans (hKb _ _ hk) hB
  clear d0 d1 d2 hyd hR hk
  obtain ⟨d0, d1, d2⟩ := hcell w1 hB
  obtain ⟨fn, tmps, assign, body, hyd, hR⟩ := hY [(x - 1, y, z)] (x, y - 1, z) w1 hJ (by simp)
  unfold cellV at hyd
  dsimp only at hyd
  gi_wp2
  refine hR.mono ?_
  rintro e w2 (⟨rfl, hJ, hk⟩ | ⟨rfl, hJx⟩)
  rotate_left
  · clear d0 d1 d2 hyd hR
    gi_wp2
    refine ⟨fun _ h => (by cases h), ?_⟩
    gi_wp2
    go_end0
    exact ⟨⟨_, rfl⟩, .inr ⟨[(x - 1, y, z), (x, y - 1, z)], ⟨[(x, y, z - 1), (x, y, z + 1), (x, y + 1, z), (x + 1, y, z)], rfl⟩, hJx⟩⟩
  replace hB : SameAt Bn _ _ := Eq.trans (hKb _ _ hk) hB
  clear d0 d1 d2 hyd hR hk
  obtain ⟨d0, d1, d2⟩ := hcell w2 hB
  obtain ⟨fn, tmps, assign, body, hyd, hR⟩ := hY [(x - 1, y, z), (x, y - 1, z)] (x, y, z - 1) w2 hJ (by simp)
  unfold cellV at hyd
  dsimp only at hyd
  gi_wp2
  refine hR.mono ?_
  rintro e w3 (⟨rfl, hJ, hk⟩ | ⟨rfl, hJx⟩)
  rotate_left
  · clear d0 d1 d2 hyd hR
    gi_wp2
    refine ⟨fun _ h => (by cases h), ?_⟩
    gi_wp2
    go_end0
    exact ⟨⟨_, rfl⟩, .inr ⟨[(x - 1, y, z), (x, y - 1, z), (x, y, z - 1)], ⟨[(x, y, z + 1), (x, y + 1, z), (x + 1, y, z)], rfl⟩, hJx⟩⟩
  replace hB : SameAt Bn _ _ := Eq.trans (hKb _ _ hk) hB
  clear d0 d1 d2 hyd hR hk
  obtain ⟨d0, d1, d2⟩ := hcell w3 hB
  obtain ⟨fn, tmps, assign, body, hyd, hR⟩ := hY [(x - 1, y, z), (x, y - 1, z), (x, y, z - 1)] (x, y, z + 1) w3 hJ (by simp)
  unfold cellV at hyd
  dsimp only at hyd
  gi_wp2
  refine hR.mono ?_
  rintro e w4 (⟨rfl, hJ, hk⟩ | ⟨rfl, hJx⟩)
  rotate_left
  · clear d0 d1 d2 hyd hR
    gi_wp2
    refine ⟨fun _ h => (by cases h), ?_⟩
    gi_wp2
    go_end0
    exact ⟨⟨_, rfl⟩, .inr ⟨[(x - 1, y, z), (x, y - 1, z), (x, y, z - 1), (x, y, z + 1)], ⟨[(x, y + 1, z), (x + 1, y, z)], rfl⟩, hJx⟩⟩
  replace hB : SameAt Bn _ _ := Eq.trans (hKb _ _ hk) hB
  clear d0 d1 d2 hyd hR hk
  obtain ⟨d0, d1, d2⟩ := hcell w4 hB
  obtain ⟨fn, tmps, assign, body, hyd, hR⟩ := hY [(x - 1, y, z), (x, y - 1, z), (x, y, z - 1), (x, y, z + 1)] (x, y + 1, z) w4 hJ (by simp)
  unfold cellV at hyd
  dsimp only at hyd
  gi_wp2
  refine hR.mono ?_
  rintro e w5 (⟨rfl, hJ, hk⟩ | ⟨rfl, hJx⟩)
  rotate_left
  · clear d0 d1 d2 hyd hR
    gi_wp2
    refine ⟨fun _ h => (by cases h), ?_⟩
    gi_wp2
    go_end0
    exact ⟨⟨_, rfl⟩, .inr ⟨[(x - 1, y, z), (x, y - 1, z), (x, y, z - 1), (x, y, z + 1), (x, y + 1, z)], ⟨[(x + 1, y, z)], rfl⟩, hJx⟩⟩
  replace hB : SameAt Bn _ _ := Eq.trans (hKb _ _ hk) hB
  clear d0 d1 d2 hyd hR hk
  obtain ⟨d0, d1, d2⟩ := hcell w5 hB
  obtain ⟨fn, tmps, assign, body, hyd, hR⟩ := hY [(x - 1, y, z), (x, y - 1, z), (x, y, z - 1), (x, y, z + 1), (x, y + 1, z)] (x + 1, y, z) w5 hJ (by simp)
  unfold cellV at hyd
  dsimp only at hyd
  gi_wp2
  refine hR.mono ?_
  rintro e w6 (⟨rfl, hJ, hk⟩ | ⟨rfl, hJx⟩)
  rotate_left
  · clear d0 d1 d2 hyd hR
    gi_wp2
    go_end0
    exact ⟨⟨_, rfl⟩, .inr ⟨[(x - 1, y, z), (x, y - 1, z), (x, y, z - 1), (x, y, z + 1), (x, y + 1, z), (x + 1, y, z)], ⟨[], rfl⟩, hJx⟩⟩
  clear d0 d1 d2 hyd hR
  gi_wp2
  go_end0
  exact ⟨⟨_, rfl⟩, .inl ⟨_, rfl, hJ⟩⟩
theorem neighbours_stops (F : Fence) (n : Nat) (h6 : F.fn 75) (hro : F.round = none) (hn : 1 ≤ n) (Bn n₀ : Nat) (c : Cel) (hc : Near c 2000) (hBn0 : Bn < n₀) (w : World) (hn₀ : n₀ ≤ w.heap.size)
    (hW : w.heap[Bn]? = some (.cells (boxC c) 34 (0, 0))) :
    SeqStopsK F n Tryz.prog 75 #[.pointer (some ⟨Bn, 0, none⟩)] (fun x : Cel => #[cellV x]) (Below n₀) (fun ys => ys = nearL c) (fun pre => pre <+: nearL c) (nearL c).length w := fun l J Jx W hW' _ _ hY h0 =>
  neighbours1_in F n h6 hro hn l Bn c hc (Below n₀) (fun _ _ h => h.block _ hBn0) J Jx hY W ((hW'.block Bn (Nat.lt_of_lt_of_le hBn0 hn₀)).trans hW) h0
theorem neighbours_stopsK (F : Fence) (n : Nat) (h6 : F.fn 75) (hro : F.round = none) (hn : 1 ≤ n) (Bn : Nat) (c : Cel) (hc : Near c 2000) (Kp : World → World → Prop) (hKb : ∀ A B, Kp A B → B.heap[Bn]? = A.heap[Bn]?) (w : World) (hBn : Bn < w.heap.size)
    (hW : w.heap[Bn]? = some (.cells (boxC c) 34 (0, 0))) :
    SeqStopsK F n Tryz.prog 75 #[.pointer (some ⟨Bn, 0, none⟩)] (fun x : Cel => #[cellV x]) Kp (fun ys => ys = nearL c) (fun pre => pre <+: nearL c) (nearL c).length w := fun l J Jx W hW' _ _ hY h0 =>
  neighbours1_in F n h6 hro hn l Bn c hc Kp hKb J Jx hY W ((hW'.block Bn hBn).trans hW) h0
theorem neighbours_ok (c : Cel) (w : World) :
    Calls Tryz.prog 45 #[cellV c] w fun e w' => e = .returned (.func (.func 75) #[] #[.pointer (some ⟨w.heap.size, 0, none⟩)]) ∧ w' = w.alloc (.cells (boxC c) 34) := by
  obtain ⟨x, y, z⟩ := c
  unfold cellV boxC
  dsimp only
  go_enter Tryz.func45, Tryz.ntmps45
  go_wp2
  go_ret
  exact ⟨rfl, rfl⟩
end Go.Proofs
end

section
/- A part of what GrowR had: growN, mem_step, near_grow, near_step. -/
namespace Go.Proofs
open Go.RowKit
set_option maxHeartbeats 8000000
set_option maxRecDepth 1000000
/-- A set grown by some steps, as a list with repetitions. -/
def growN : Nat → List Cel → List Cel
  | 0, l => l
  | n + 1, l => (growN n l).flatMap fun c => c :: nearL c
theorem mem_step {L : List Cel} {c : Cel} : (c ∈ L.flatMap fun c => c :: nearL c) ↔ c ∈ L ∨ ∃ d ∈ L, c ∈ nearL d := by
  rw [List.mem_flatMap]
  constructor
  · rintro ⟨d, hd, h⟩
    rcases List.mem_cons.1 h with rfl | h
    · exact .inl hd
    · exact .inr ⟨d, hd, h⟩
  · rintro (h | ⟨d, hd, h⟩)
    · exact ⟨c, h, List.mem_cons_self ..⟩
    · exact ⟨d, hd, List.mem_cons_of_mem _ h⟩
theorem near_step {c d : Cel} {b : Int} (hc : Near c b) (hd : d ∈ nearL c) : Near d (b + 1) := by
  obtain ⟨x, y, z⟩ := c
  unfold nearL at hd
  unfold Near at hc ⊢
  simp only [List.mem_cons, List.mem_nil_iff, or_false] at hd
  rcases hd with rfl | rfl | rfl | rfl | rfl | rfl <;> (dsimp only at hc ⊢; omega)
theorem near_grow {l : List Cel} {b : Int} (h : ∀ c ∈ l, Near c b) : ∀ n : Nat, ∀ c ∈ growN n l, Near c (b + n)
  | 0, c, hc => by
    have := h c hc
    rwa [show b + ((0 : Nat) : Int) = b by omega]
  | n + 1, c, hc => by
    rcases mem_step.1 hc with hc | ⟨d, hd, hc⟩
    · exact (near_grow h n c hc).mono (by omega)
    · have := near_step (near_grow h n d hd) hc
      rwa [show b + ((n + 1 : Nat) : Int) = b + n + 1 by omega]
end Go.Proofs
end

section
/- A part of what GrK had: dist_near, grow_dist, grow_small, offs, offs_len, offs_mem. -/
namespace Go.Proofs
open Go.RowKit
set_option maxHeartbeats 8000000
set_option maxRecDepth 1000000
/-- The cells that are at most three steps from the middle. -/
def offs : List Cel := ((List.range 343).map fun t => (((t / 49 : Nat) : Int) - 3, ((t / 7 % 7 : Nat) : Int) - 3, ((t % 7 : Nat) : Int) - 3)).filter fun o => decide (max o.1 (-o.1) + max o.2.1 (-o.2.1) + max o.2.2 (-o.2.2) ≤ 3)
theorem offs_len : offs.length = 63 := by decide +kernel
theorem offs_mem {x y z : Int} (h : max x (-x) + max y (-y) + max z (-z) ≤ 3) : (x, y, z) ∈ offs := by
  obtain ⟨a, ha⟩ : ∃ a : Nat, x = (a : Int) - 3 := ⟨(x + 3).toNat, by omega⟩
  obtain ⟨b, hb⟩ : ∃ b : Nat, y = (b : Int) - 3 := ⟨(y + 3).toNat, by omega⟩
  obtain ⟨c, hc⟩ : ∃ c : Nat, z = (c : Int) - 3 := ⟨(z + 3).toNat, by omega⟩
  subst ha hb hc
  have ha : a ≤ 6 := by omega
  have hb : b ≤ 6 := by omega
  have hc : c ≤ 6 := by omega
  refine List.mem_filter.2 ⟨List.mem_map.2 ⟨a * 49 + b * 7 + c, List.mem_range.2 (by omega), ?_⟩, decide_eq_true h⟩
  have e1 : (a * 49 + b * 7 + c) / 49 = a := by omega
  have e2 : (a * 49 + b * 7 + c) / 7 % 7 = b := by omega
  have e3 : (a * 49 + b * 7 + c) % 7 = c := by omega
  rw [e1, e2, e3]
theorem dist_near {p c d : Cel} {n : Int} (h : distI p c ≤ n) (hd : d ∈ nearL c) : distI p d ≤ n + 1 := by
  obtain ⟨x, y, z⟩ := c
  unfold nearL at hd
  unfold distI at h ⊢
  simp only [List.mem_cons, List.mem_nil_iff, or_false] at hd
  rcases hd with rfl | rfl | rfl | rfl | rfl | rfl <;> (dsimp only at h ⊢; omega)
theorem grow_dist {l : List Cel} : ∀ (n : Nat) (c : Cel), c ∈ growN n l → ∃ p ∈ l, distI p c ≤ n
  | 0, c, hc => ⟨c, hc, by unfold distI; omega⟩
  | n + 1, c, hc => by
    rcases mem_step.1 hc with hc | ⟨d, hd, hc⟩
    · obtain ⟨p, hp, h⟩ := grow_dist n c hc
      exact ⟨p, hp, by omega⟩
    · obtain ⟨p, hp, h⟩ := grow_dist n d hd
      exact ⟨p, hp, by have := dist_near h hc; omega⟩
theorem grow_small {l : List Cel} (hl : l.length ≤ 40) {i : Nat} (hi : i ≤ 3) {S : List Cel} (hnd : S.Nodup) (hS : ∀ c ∈ S, c ∈ growN i l) : S.length ≤ 4000 := by
  have hsub : ∀ c ∈ S, c ∈ l.flatMap fun p => offs.map fun o => (p.1 + o.1, p.2.1 + o.2.1, p.2.2 + o.2.2) := fun c hc => by
    obtain ⟨p, hp, h⟩ := grow_dist i c (hS c hc)
    refine List.mem_flatMap.2 ⟨p, hp, List.mem_map.2 ⟨(c.1 - p.1, c.2.1 - p.2.1, c.2.2 - p.2.2), offs_mem ?_, ?_⟩⟩
    · unfold distI at h
      omega
    · obtain ⟨c1, c2, c3⟩ := c
      simp only [Prod.mk.injEq]
      omega
  have h1 := nodup_len hnd hsub
  have h2 : ∀ m : List Cel, (m.flatMap fun p => offs.map fun o => (p.1 + o.1, p.2.1 + o.2.1, p.2.2 + o.2.2)).length = m.length * 63 := fun m => by
    induction m with
    | nil => rfl
    | cons c m ih => rw [List.flatMap_cons, List.length_append, ih, List.length_map, offs_len]; simp; omega
  rw [h2] at h1
  omega
end Go.Proofs
end
