import Derived.Test.YtpickbchpnbffaaGreatCheckV
import Derived.Test.YtpickbchpnbffaaGreatSorted
import Derived.Deep.QuietTactic
import Derived.BigQuiet
import Derived.StillTailTactics
section
namespace Go.Proofs
open Go.RowKit
set_option maxHeartbeats 4000000
set_option maxRecDepth 1000000
def farB (a n : Int) : Bool := decide (a < 0 - n ∨ n < a)
theorem far_ok (a : Int) (w : World) : Calls Tryz.prog 95 #[.int .i64 a, .int .i64 1000] w fun e w' => e = .returned (.bool (farB a 1000)) ∧ w' = w := by
  unfold farB
  go_enter Tryz.func95, Tryz.ntmps95
  go_wp2
  all_goals go_ret
  all_goals (refine ⟨?_, rfl⟩; simp_all <;> omega)
theorem refCheckCell_ok (x y z : Int) (w : World) (hx : farB x 1000 = false) (hy : farB y 1000 = false) (hz : farB z 1000 = false) :
    Calls Tryz.prog 78 #[.agg #[.int .i64 x, .int .i64 y, .int .i64 z]] w fun e w' => e = .returned (.int .i64 0) ∧ Below w.heap.size w w' := by
  go_enter Tryz.func78, Tryz.ntmps78
  go_wp2_with (go_at_call 95; refine (far_ok _ _).mono ?_; rintro e w' ⟨rfl, rfl⟩; simp only [hx, hy, hz])
  go_ret
  exact ⟨rfl, (Below.refl _ _).alloc (Nat.le_refl _) _⟩
theorem before_ok (x1 y1 z1 x2 y2 z2 : Int) (w : World) :
    Calls Tryz.prog 94 #[.agg #[.int .i64 x1, .int .i64 y1, .int .i64 z1], .agg #[.int .i64 x2, .int .i64 y2, .int .i64 z2]] w fun e w' => e = .returned (.bool (decide (cmp3 x1 y1 z1 x2 y2 z2 < 0))) ∧ Below w.heap.size w w' := by
  unfold cmp3 orI cmpI
  go_enter Tryz.func94, Tryz.ntmps94
  go_wp2
  all_goals go_ret
  all_goals (refine ⟨?_, ((Below.refl _ _).alloc (Nat.le_refl _) _).alloc (by simp) _⟩; simp_all <;> (try (split <;> simp_all)) <;> omega)
end Go.Proofs
end

section
namespace Go.Proofs
open Go.RowKit
set_option maxHeartbeats 4000000
set_option maxRecDepth 1000000
theorem wrapS {n : Int} (h : -9000000 ≤ n ∧ n ≤ 9000000) : IntKind.i64.wrap n = n := by simp [IntKind.wrap, IntKind.bits, IntKind.signed]; omega
theorem compareCells_ok (x1 y1 z1 x2 y2 z2 : Int) (w : World) :
    Calls Tryz.prog 73 #[.agg #[.int .i64 x1, .int .i64 y1, .int .i64 z1], .agg #[.int .i64 x2, .int .i64 y2, .int .i64 z2]] w fun e w' => e = .returned (.int .i64 (cmp3 x1 y1 z1 x2 y2 z2)) ∧ Below w.heap.size w w' := by
  have hc := fun W => compare_ok x1 y1 z1 x2 y2 z2 W
  generalize cmp3 x1 y1 z1 x2 y2 z2 = r at hc ⊢
  go_enter Tryz.func73, Tryz.ntmps73
  go_wp2_with (go_at_call 91; refine (hc _).mono ?_; rintro e w' ⟨rfl, q, os, rfl⟩)
  go_ret
  refine ⟨rfl, ?_⟩
  rw [Sort.alloc_eq_grow, Sort.alloc_eq_grow, Sort.grow_grow, show ∀ os', (Sort.grow w os').drewN q = Sort.grow (w.drewN q) os' from fun _ => rfl, Sort.grow_grow]
  exact below_grow _ _ _
theorem checkEach_ok (l : List Cel) (blk off cap : Nat) (w : World) (hl : RowAt w blk off l) (hb : blk < w.heap.size) (hn : l.length ≤ 4096) (hfit : ∀ c ∈ l, vecI c 1000 = 0) :
    Calls Tryz.prog 47 #[.slice (some ⟨blk, off, none⟩) l.length cap] w fun e w' => e = .returned (.int .i64 0) ∧ Below w.heap.size w w' := by
  go_enter Tryz.func47, Tryz.ntmps47
  go_wp2
  go_loopw [8] (fun i wr => ∃ k : Nat, k ≤ l.length ∧ i = .int .i64 k ∧ Below w.heap.size w wr) (fun i _ => l.length - (intOf i).toNat)
  case atStart => exact ⟨0, Nat.zero_le _, rfl, Below.refl _ _⟩
  case round =>
    obtain ⟨k, hk, rfl, hBel⟩ := hrel
    rcases Nat.lt_or_eq_of_le hk with hkn | rfl
    · obtain ⟨x, y, z, hc⟩ : ∃ x y z, l[k]? = some (x, y, z) := ⟨_, _, _, List.getElem?_eq_getElem hkn⟩
      have hv := fun W => checkCell_ok x y z W
      rw [hfit _ (List.mem_of_getElem? hc)] at hv
      obtain ⟨r0, r1, r2⟩ := hl k _ hc
      rw [← hBel.cell (p := ⟨blk, off + k * 3, none⟩) hb] at r0
      rw [← hBel.cell (p := ⟨blk, off + k * 3 + 1, none⟩) hb] at r1
      rw [← hBel.cell (p := ⟨blk, off + k * 3 + 2, none⟩) hb] at r2
      clear hl hfit
      go_wp2_with (go_at_call 49; refine (hv _).mono ?_; rintro e w2 ⟨rfl, hB2⟩)
      refine ⟨⟨k + 1, hkn, rfl, ?_⟩, ?_⟩
      · exact (hBel.alloc hBel.size _).trans (hB2.mono (by have := hBel.size; simp; omega))
      · simp [intOf]; omega
    · clear hl hfit
      go_wp2
      go_ret
      exact ⟨rfl, hBel⟩
end Go.Proofs
end

section
namespace Go.Proofs
open Go.RowKit
set_option maxHeartbeats 4000000
set_option maxRecDepth 1000000
def Asc (l : List Cel) : Prop := ∀ i a b, l[i]? = some a → l[i+1]? = some b → cmp3 a.1 a.2.1 a.2.2 b.1 b.2.1 b.2.2 < 0
theorem gridCheck_ok (l : List Cel) (blk off cap : Nat) (w : World) (hl : RowAt w blk off l) (hb : blk < w.heap.size) (hn : l.length ≤ 4096) (hfit : ∀ c ∈ l, vecI c 1000 = 0) (hasc : Asc l) :
    Calls Tryz.prog 33 #[.slice (some ⟨blk, off, none⟩) l.length cap] w fun e w' => e = .returned (.int .i64 0) ∧ Below w.heap.size w w' := by
  go_enter Tryz.func33, Tryz.ntmps33
  have hn' : ¬ ((4096 : Int) < l.length) := by omega
  go_wp2
  go_loopw [11] (fun i wr => ∃ k : Nat, k ≤ l.length ∧ i = .int .i64 k ∧ Below w.heap.size w wr) (fun i _ => l.length - (intOf i).toNat)
  case atStart => exact ⟨0, Nat.zero_le _, rfl, Below.refl _ _⟩
  case round =>
    obtain ⟨k, hk, rfl, hBel⟩ := hrel
    rcases Nat.lt_or_eq_of_le hk with hkn | rfl
    · obtain ⟨x, y, z, hc⟩ : ∃ x y z, l[k]? = some (x, y, z) := ⟨_, _, _, List.getElem?_eq_getElem hkn⟩
      have hv := fun W => checkCell_ok x y z W
      rw [hfit _ (List.mem_of_getElem? hc)] at hv
      obtain ⟨r0, r1, r2⟩ := hl k _ hc
      rw [← hBel.cell (p := ⟨blk, off + k * 3, none⟩) hb] at r0
      rw [← hBel.cell (p := ⟨blk, off + k * 3 + 1, none⟩) hb] at r1
      rw [← hBel.cell (p := ⟨blk, off + k * 3 + 2, none⟩) hb] at r2
      have hsz := hBel.size
      rcases Nat.eq_zero_or_pos k with rfl | hpos
      · simp only [Nat.zero_mul, Nat.add_zero] at r0 r1 r2
        clear hl hfit hasc
        go_wp2_with (go_at_call 49; refine (hv _).mono ?_; rintro e w2 ⟨rfl, hB2⟩)
        have hB3 : Below w.heap.size w w2 := (hBel.alloc hsz _).trans (hB2.mono (by simp; omega))
        clear hB2 hv hBel
        go_quiet (fail)
        go_wp2
        exact ⟨⟨1, hkn, rfl, ⟨hB3.os, hB3.tape, hB3.output, hB3.size, hB3.block⟩⟩, by simp [intOf]; omega⟩
      · obtain ⟨px, py, pz, hp⟩ : ∃ x y z, l[k-1]? = some (x, y, z) := ⟨_, _, _, List.getElem?_eq_getElem (by omega)⟩
        have hlt := hasc (k-1) (px, py, pz) (x, y, z) hp (by rw [show k - 1 + 1 = k by omega]; exact hc)
        have hcm := fun W => compareCells_ok px py pz x y z W
        dsimp only at hlt
        generalize cmp3 px py pz x y z = r at hlt hcm
        obtain ⟨q0, q1, q2⟩ := hl (k-1) _ hp
        have hkk : (k - 1) * 3 + 3 = k * 3 := by omega
        clear hl hfit hasc
        go_wp2_with (go_at_call 49; refine (hv _).mono ?_; rintro e w2 ⟨rfl, hB2⟩)
        have hB3 : Below w.heap.size w w2 := (hBel.alloc hsz _).trans (hB2.mono (by simp; omega))
        have c0 : w2.cell? ⟨wr.heap.size, 0, none⟩ = some (.int .i64 x) := by rw [hB2.cell (p := ⟨wr.heap.size, 0, none⟩) (by simp)]; go_simp
        have c1 : w2.cell? ⟨wr.heap.size, 1, none⟩ = some (.int .i64 y) := by rw [hB2.cell (p := ⟨wr.heap.size, 1, none⟩) (by simp)]; go_simp
        have c2 : w2.cell? ⟨wr.heap.size, 2, none⟩ = some (.int .i64 z) := by rw [hB2.cell (p := ⟨wr.heap.size, 2, none⟩) (by simp)]; go_simp
        rw [← hB3.cell (p := ⟨blk, off + (k - 1) * 3, none⟩) hb] at q0
        rw [← hB3.cell (p := ⟨blk, off + (k - 1) * 3 + 1, none⟩) hb] at q1
        rw [← hB3.cell (p := ⟨blk, off + (k - 1) * 3 + 2, none⟩) hb] at q2
        clear hB2 hv hBel r0 r1 r2
        have hw : IntKind.i64.wrap ((k : Int) - 1) = (k : Int) - 1 := wrapS (by omega)
        have hi0 : 1 ≤ (k : Int) := by omega
        have hi1 : (k : Int) - 1 < l.length := by omega
        have hit : ((k : Int) - 1).toNat = k - 1 := by omega
        have hd : decide ((0 : Int) < k) = true := by simp; omega
        go_still_tail 9, (by kernel_rfl)
        change wpList _ _ _ _ _ w2.drew
        have hB4 : Below w.heap.size w w2.drew := ⟨hB3.os, hB3.tape, hB3.output, hB3.size, hB3.block⟩
        clear q0 q1 q2 c0 c1 c2 hw hi0 hi1 hit hd hB3
        generalize w2.drew = w3 at hB4 ⊢
        have hr : ¬ (0 ≤ r) := by omega
        go_wp2_with (go_at_call 73; refine (hcm _).mono ?_; rintro e w4 ⟨rfl, hB5⟩)
        exact ⟨⟨k + 1, hkn, rfl, hB4.trans (hB5.mono hB4.size)⟩, by simp [intOf]; omega⟩
    · clear hl hfit hasc
      go_wp2
      go_ret
      exact ⟨rfl, hBel⟩
end Go.Proofs
end

section
namespace Go.Proofs
open Go.RowKit
set_option maxHeartbeats 4000000
set_option maxRecDepth 1000000
theorem refCheck_ok (l : List Cel) (blk off cap : Nat) (w : World) (hl : RowAt w blk off l) (hb : blk < w.heap.size) (hn : l.length ≤ 4096) (hfit : ∀ c ∈ l, farB c.1 1000 = false ∧ farB c.2.1 1000 = false ∧ farB c.2.2 1000 = false) (hasc : Asc l) :
    Calls Tryz.prog 77 #[.slice (some ⟨blk, off, none⟩) l.length cap] w fun e w' => e = .returned (.int .i64 0) ∧ Below w.heap.size w w' := by
  go_enter Tryz.func77, Tryz.ntmps77
  have hn' : ¬ ((4096 : Int) < l.length) := by omega
  go_wp2
  go_loopw [3] (fun i wr => ∃ k : Nat, k ≤ l.length ∧ i = .int .i64 k ∧ Below w.heap.size w wr) (fun i _ => l.length - (intOf i).toNat)
  case atStart => exact ⟨0, Nat.zero_le _, rfl, Below.refl _ _⟩
  case round =>
    obtain ⟨k, hk, rfl, hBel⟩ := hrel
    rcases Nat.lt_or_eq_of_le hk with hkn | rfl
    · obtain ⟨x, y, z, hc⟩ : ∃ x y z, l[k]? = some (x, y, z) := ⟨_, _, _, List.getElem?_eq_getElem hkn⟩
      obtain ⟨fx, fy, fz⟩ := hfit _ (List.mem_of_getElem? hc)
      have hv := fun W => refCheckCell_ok x y z W fx fy fz
      obtain ⟨r0, r1, r2⟩ := hl k _ hc
      rw [← hBel.cell (p := ⟨blk, off + k * 3, none⟩) hb] at r0
      rw [← hBel.cell (p := ⟨blk, off + k * 3 + 1, none⟩) hb] at r1
      rw [← hBel.cell (p := ⟨blk, off + k * 3 + 2, none⟩) hb] at r2
      have hsz := hBel.size
      rcases Nat.eq_zero_or_pos k with rfl | hpos
      · simp only [Nat.zero_mul, Nat.add_zero] at r0 r1 r2
        clear hl hfit hasc fx fy fz
        go_wp2_with (go_at_call 78; refine (hv _).mono ?_; rintro e w2 ⟨rfl, hB2⟩)
        have hB3 : Below w.heap.size w w2 := hBel.trans (hB2.mono hsz)
        clear hB2 hv hBel
        go_quiet (fail)
        go_wp2
        exact ⟨⟨1, hkn, rfl, ⟨hB3.os, hB3.tape, hB3.output, hB3.size, hB3.block⟩⟩, by simp [intOf]; omega⟩
      · obtain ⟨px, py, pz, hp⟩ : ∃ x y z, l[k-1]? = some (x, y, z) := ⟨_, _, _, List.getElem?_eq_getElem (by omega)⟩
        have hlt := hasc (k-1) (px, py, pz) (x, y, z) hp (by rw [show k - 1 + 1 = k by omega]; exact hc)
        have hcm := fun W => before_ok px py pz x y z W
        dsimp only at hlt
        rw [decide_eq_true hlt] at hcm
        obtain ⟨q0, q1, q2⟩ := hl (k-1) _ hp
        clear hl hfit hasc fx fy fz hlt
        go_wp2_with (go_at_call 78; refine (hv _).mono ?_; rintro e w2 ⟨rfl, hB2⟩)
        have hB3 : Below w.heap.size w w2 := hBel.trans (hB2.mono hsz)
        rw [← hB3.cell (p := ⟨blk, off + (k - 1) * 3, none⟩) hb] at q0
        rw [← hB3.cell (p := ⟨blk, off + (k - 1) * 3 + 1, none⟩) hb] at q1
        rw [← hB3.cell (p := ⟨blk, off + (k - 1) * 3 + 2, none⟩) hb] at q2
        have hlt' : blk < wr.heap.size := by omega
        rw [← hB2.cell (p := ⟨blk, off + k * 3, none⟩) hlt'] at r0
        rw [← hB2.cell (p := ⟨blk, off + k * 3 + 1, none⟩) hlt'] at r1
        rw [← hB2.cell (p := ⟨blk, off + k * 3 + 2, none⟩) hlt'] at r2
        clear hB2 hv hBel
        have hw : IntKind.i64.wrap ((k : Int) - 1) = (k : Int) - 1 := wrapS (by omega)
        have hi0 : 1 ≤ (k : Int) := by omega
        have hi1 : (k : Int) - 1 < l.length := by omega
        have hit : ((k : Int) - 1).toNat = k - 1 := by omega
        have hd : decide ((0 : Int) < k) = true := by simp; omega
        go_still_tail 12, (by kernel_rfl)
        change wpList _ _ _ _ _ w2.drew
        have hB4 : Below w.heap.size w w2.drew := ⟨hB3.os, hB3.tape, hB3.output, hB3.size, hB3.block⟩
        clear q0 q1 q2 r0 r1 r2 hw hi0 hi1 hit hd hB3
        generalize w2.drew = w3 at hB4 ⊢
        go_wp2_with (go_at_call 94; refine (hcm _).mono ?_; rintro e w4 ⟨rfl, hB5⟩)
        exact ⟨⟨k + 1, hkn, rfl, hB4.trans (hB5.mono hB4.size)⟩, by simp [intOf]; omega⟩
    · clear hl hfit hasc
      go_wp2
      go_ret
      exact ⟨rfl, hBel⟩
theorem eqCell (x y z x' y' z' : Int) (w : World) : (Op.equalIn 10000 34 (.agg #[.int .i64 x, .int .i64 y, .int .i64 z]) (.agg #[.int .i64 x', .int .i64 y', .int .i64 z'])).run Tryz.prog w = .ok (x == x' && (y == y' && z == z')) w := by
  have u3 := Tryz.underlying3
  have a3 := Tryz.isAgg3
  have z3 := Tryz.sizeOf3
  have hS : Tryz.prog.underlying 34 = some (.struct (Tryz.prog.fieldsOf 34)) := by kernel_rfl
  have hp : Tryz.prog.stoodInHeld 34 = false := by kernel_rfl
  rw [show (10000 : Nat) = 9999 + 1 from rfl, run_equalIn_agg w 9999 34 _ _ hS hp]
  simp only [Program.fieldsOf, Tryz.underlying34]
  go_simp
  by_cases h1 : x = x' <;> by_cases h2 : y = y' <;> by_cases h3 : z = z' <;> simp [h1, h2, h3]
theorem same_len (l m : List Cel) (n bl ol cl bm om cm : Nat) (w : World) (hl : RowAt w bl ol l) (hm : RowAt w bm om m) (hn : n ≤ 4096) (hln : l.length = n) (hmn : m.length = n) (b : Bool) (hbt : l = m → b = true) (hbf : l ≠ m → b = false) :
    Calls Tryz.prog 14 #[.slice (some ⟨bl, ol, none⟩) n cl, .slice (some ⟨bm, om, none⟩) n cm] w fun e w' => e = .returned (.bool b) ∧ ∃ q, w' = w.drewN q := by
  go_enter Tryz.func14, Tryz.ntmps14
  go_wp2
  go_loopw [5] (fun i wr => ∃ k q : Nat, k ≤ n ∧ i = .int .i64 k ∧ (∀ j, j < k → l[j]? = m[j]?) ∧ wr = w.drewN q) (fun i _ => n - (intOf i).toNat)
  case atStart => exact ⟨0, 0, Nat.zero_le _, rfl, fun j h => absurd h (Nat.not_lt_zero j), rfl⟩
  case round =>
    obtain ⟨k, q, hk, rfl, hall, rfl⟩ := hrel
    rcases Nat.lt_or_eq_of_le hk with hkn | rfl
    · obtain ⟨x, y, z, hc⟩ : ∃ x y z, l[k]? = some (x, y, z) := ⟨_, _, _, List.getElem?_eq_getElem (by omega)⟩
      obtain ⟨x', y', z', hc'⟩ : ∃ x y z, m[k]? = some (x, y, z) := ⟨_, _, _, List.getElem?_eq_getElem (by omega)⟩
      obtain ⟨r0, r1, r2⟩ := hl k _ hc
      obtain ⟨q0, q1, q2⟩ := hm k _ hc'
      have heq := fun W => eqCell x y z x' y' z' W
      have i0 : (0 : Int) ≤ k := by omega
      have i1 : (k : Int) < n := by omega
      clear hl hm hln hmn
      by_cases he : (x, y, z) = (x', y', z')
      · obtain ⟨rfl, rfl, rfl⟩ : x = x' ∧ y = y' ∧ z = z' := by simpa using he
        have hb : (x == x && (y == y && z == z)) = true := by simp
        rw [hb] at heq
        clear hb he
        have hall' : ∀ j, j < k + 1 → l[j]? = m[j]? := fun j hj => by
          rcases Nat.lt_or_eq_of_le (Nat.le_of_lt_succ hj) with h | rfl
          · exact hall j h
          · rw [hc, hc']
        clear hall
        go_wp2_with fail
        go_quiet (fail)
        go_wp2
        exact ⟨⟨k + 1, q + _, hkn, rfl, hall', rfl⟩, by simp [intOf]; omega⟩
      · have hb : (x == x' && (y == y' && z == z')) = false := by
          simp only [Bool.and_eq_false_iff, beq_eq_false_iff_ne, ne_eq]
          simp only [Prod.mk.injEq] at he
          omega
        rw [hb] at heq
        have hne : l ≠ m := fun e => by
          subst e
          rw [hc] at hc'
          exact he (by simpa using hc')
        have hbb := hbf hne
        clear hb he hall hne hbt hbf
        go_wp2_with fail
        go_quiet (fail)
        go_wp2
        go_ret
        exact ⟨by rw [hbb]; rfl, _, World.drewN_drewN _ _ _⟩
    · have hE : l = m := List.ext_getElem? fun j => by
        rcases Nat.lt_or_ge j k with h | h
        · exact hall j h
        · rw [List.getElem?_eq_none (by omega), List.getElem?_eq_none (by omega)]
      have hbb := hbt hE
      clear hl hm hall hE hbt hbf hln hmn
      go_wp2
      go_ret
      exact ⟨by rw [hbb]; rfl, q, rfl⟩
theorem sameCells_ok (l m : List Cel) (bl ol cl bm om cm : Nat) (w : World) (hl : RowAt w bl ol l) (hm : RowAt w bm om m) (hn : l.length ≤ 4096) :
    Calls Tryz.prog 14 #[.slice (some ⟨bl, ol, none⟩) l.length cl, .slice (some ⟨bm, om, none⟩) m.length cm] w fun e w' => e = .returned (.bool (decide (l = m))) ∧ ∃ q, w' = w.drewN q := by
  by_cases hlen : l.length = m.length
  · have := same_len l m l.length bl ol cl bm om cm w hl hm hn rfl hlen.symm (decide (l = m)) (fun h => decide_eq_true h) (fun h => decide_eq_false h)
    rw [← hlen]
    exact this
  · have hle : ¬ ((l.length : Int) = m.length) := by omega
    have hne : l ≠ m := fun e => hlen (by rw [e])
    rw [decide_eq_false hne]
    go_enter Tryz.func14, Tryz.ntmps14
    go_wp2
    all_goals go_ret
    all_goals (first | exact ⟨rfl, 0, rfl⟩ | (simp_all))
end Go.Proofs
end
