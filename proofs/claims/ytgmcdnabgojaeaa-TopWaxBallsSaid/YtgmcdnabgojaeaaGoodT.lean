import Derived.Test.YtgmcdnabgojaeaaRefD
import Derived.Test.YtgmcdnabgojaeaaWaxBase
import Derived.Deep.RegionHeld3
section
namespace Go.Proofs
open Go.Shelf Go.RowKit Go.Lib Go.Sort
set_option maxHeartbeats 8000000
set_option maxRecDepth 1000000
def cellW (c : Cel) : Value := .agg #[.int .i64 c.1, .int .i64 c.2.1, .int .i64 c.2.2]
theorem Filled.put3 {w : World} {B n : Nat} {T : TypeId} {l : List Cel} {k : Nat} {x y z : Int} (h : Filled w B n T (l.take k)) (hk : k < n) (hc : l[k]? = some (x, y, z)) :
    Filled (((w.setCell ⟨B, k * 3, none⟩ (.int .i64 x)).setCell ⟨B, k * 3 + 1, none⟩ (.int .i64 y)).setCell ⟨B, k * 3 + 2, none⟩ (.int .i64 z)) B n T (l.take (k + 1)) := by
  have hB : B < w.heap.size := by obtain ⟨arr, ha, _⟩ := h; exact (Array.getElem?_eq_some_iff.1 ha).1
  obtain ⟨arr, ha, r⟩ := h.put hk hc (.cells #[] T)
  rw [Below.heap_alloc _ _ _ (by simpa [World.setCell] using hB)] at ha
  exact ⟨arr, ha, r⟩
theorem below3' {w wr : World} (h : Below w.heap.size w wr) (k : Nat) (a b c : Value) :
    Below w.heap.size w (((wr.setCell ⟨w.heap.size, k * 3, none⟩ a).setCell ⟨w.heap.size, k * 3 + 1, none⟩ b).setCell ⟨w.heap.size, k * 3 + 2, none⟩ c) :=
  ((h.setCell (p := ⟨w.heap.size, k * 3, none⟩) (Nat.le_refl _) a).setCell (p := ⟨w.heap.size, k * 3 + 1, none⟩) (Nat.le_refl _) b).setCell (p := ⟨w.heap.size, k * 3 + 2, none⟩) (Nat.le_refl _) c

theorem moved_turn (l : List Cel) (blk off cap : Nat) (w : World) (hl : RowAt w blk off l) (hb : blk < w.heap.size) (hn : l.length ≤ 4096) (p q : Nat) (mv : Cel → Cel)
    (hmv : ∀ c ∈ l, ∀ W, Below w.heap.size w W → Calls Try.prog 52 #[.agg #[.int .i64 c.1, .int .i64 c.2.1, .int .i64 c.2.2], .pointer (some ⟨p, 0, none⟩), .pointer (some ⟨q, 0, none⟩)] W fun e W' => e = .returned (.agg #[.int .i64 (mv c).1, .int .i64 (mv c).2.1, .int .i64 (mv c).2.2]) ∧ Below W.heap.size W W')
    (hfit : ∀ c ∈ l.map mv, vecI c 1000 = 0) (hnd : (l.map mv).Nodup) :
    Calls Try.prog 49 #[.slice (some ⟨blk, off, none⟩) l.length cap, .func (.func 52) #[] #[.pointer (some ⟨p, 0, none⟩), .pointer (some ⟨q, 0, none⟩)]] w fun e w' => ∃ B, e = .returned (.tuple #[.slice (some ⟨B, 0, none⟩) l.length l.length, .int .i64 0]) ∧ w.heap.size ≤ B ∧ Filled w' B l.length 32 (sortC (l.map mv)) ∧ Below w.heap.size w w' := by
  obtain ⟨j0, hj, hy0, hy1, hy2⟩ := info_parts (P := Try.prog) (e := 32) (z := .agg #[.int .i64 0, .int .i64 0, .int .i64 0]) (size := 3) (bytes := 24) (by kernel_rfl)
  have hml : (l.map mv).length = l.length := List.length_map _
  obtain ⟨m, hmm⟩ : ∃ m, m = l.map mv := ⟨_, rfl⟩
  have hat : ∀ (k : Nat) (c : Cel), l[k]? = some c → m[k]? = some (mv c) := fun k c h => by rw [hmm, List.getElem?_map, h]; rfl
  rw [← hmm] at hfit hnd hml ⊢
  clear hmm
  go_enter Try.func49, Try.ntmps49
  go_wp2_with (at_make; refine wpList_make_full _ rfl _ _ 22 rfl w.heap.size 32 j0 _ 3 Try.underlying22 hj hy0 hy1 .i64 .i64 _ _ l.length rfl rfl rfl rfl ?c1 ?c2 ?c3 ?_)
  case c1 => rw [hy2]; omega
  case c2 => unfold maxLen; omega
  case c3 => exact Nat.le_refl _
  intro w1 hown hgrow
  have hF1 := made_filled rfl hown m
  have hB1 : Below w.heap.size w w1 := (Below.refl _ _).grown hgrow (Nat.le_refl _) (fun k hk => by cases hk)
  clear hown hgrow
  go_wp2
  go_loopw [15] (fun i wr => ∃ k : Nat, k ≤ l.length ∧ i = .int .i64 k ∧ Filled wr w.heap.size l.length 32 (m.take k) ∧ w.heap.size < wr.heap.size ∧ Below w.heap.size w wr) (fun i _ => l.length - (intOf i).toNat)
  case atStart => exact ⟨0, Nat.zero_le _, rfl, hF1.1, hF1.2, hB1⟩
  case round =>
    obtain ⟨k, hk, rfl, hF, hlt, hBel⟩ := hrel
    rcases Nat.lt_or_eq_of_le hk with hkn | rfl
    · obtain ⟨x, y, z, hc⟩ : ∃ x y z, l[k]? = some (x, y, z) := ⟨_, _, _, List.getElem?_eq_getElem hkn⟩
      have hcm := hmv (x, y, z) (List.mem_of_getElem? hc)
      have hmk := hat k _ hc
      obtain ⟨x', y', z', hxyz⟩ : ∃ x' y' z', mv (x, y, z) = (x', y', z') := ⟨_, _, _, rfl⟩
      rw [hxyz] at hcm hmk
      dsimp only at hcm
      obtain ⟨r0, r1, r2⟩ := hl k _ hc
      rw [← hBel.cell (p := ⟨blk, off + k * 3, none⟩) hb] at r0
      rw [← hBel.cell (p := ⟨blk, off + k * 3 + 1, none⟩) hb] at r1
      rw [← hBel.cell (p := ⟨blk, off + k * 3 + 2, none⟩) hb] at r2
      have hBa := hBel.alloc (Nat.le_of_lt hlt) (.cells #[.int .i64 x, .int .i64 y, .int .i64 z] 32)
      have hcall := hcm _ hBa
      have hi0 : (0 : Int) ≤ k := by omega
      have hi1 : (k : Int) < l.length := by omega
      have hFa := hF.below ((Below.refl wr.heap.size wr).alloc (Nat.le_refl _) (.cells #[.int .i64 x, .int .i64 y, .int .i64 z] 32)) hlt
      have hlt2 : w.heap.size < (wr.alloc (.cells #[.int .i64 x, .int .i64 y, .int .i64 z] 32)).heap.size := by simp; omega
      clear hB1 hF1 hl hfit hnd hmv hat hc hcm hxyz hml hF hBel
      go_wp2_with (go_at_call 52; refine hcall.mono ?_; rintro e w2 ⟨rfl, hB2⟩; have hF2 := hFa.below hB2 hlt2; have fz := hF2.fz; obtain ⟨v0, o0⟩ := hF2.old (j := k * 3) (by omega); obtain ⟨v1, o1⟩ := hF2.old (j := k * 3 + 1) (by omega); obtain ⟨v2, o2⟩ := hF2.old (j := k * 3 + 2) (by omega))
      have hsz := hB2.size
      refine ⟨⟨k + 1, hkn, rfl, hF2.put3 hkn hmk, by simp [World.setCell]; omega, below3' (hBa.trans (hB2.mono (Nat.le_of_lt hlt2))) k _ _ _⟩, ?_⟩
      simp [intOf]; omega
    · clear hl hF1 hB1 hmv hat
      rw [List.take_of_length_le (by rw [hml]; exact Nat.le_refl _)] at hF
      have hrow := hF.row
      have hce := checkEach_ok m w.heap.size 0 m.length wr hrow hlt (by rw [hml]; exact hn) hfit
      have hso := fun W (hr : RowAt W w.heap.size 0 m) (hb : w.heap.size < W.heap.size) => sorted_ok m w.heap.size 0 m.length W hr hb (by rw [hml]; exact hn) hnd
      rw [hml] at hce hso
      have hstep : ∀ W, Below wr.heap.size wr W → RowAt W w.heap.size 0 m ∧ w.heap.size < W.heap.size := fun W hW => ⟨(hF.below hW hlt).row, Nat.lt_of_lt_of_le hlt hW.size⟩
      clear hfit hnd hml hrow hF
      go_wp2_with (first
        | (go_at_call 30; refine hce.mono ?_; rintro e w3 ⟨rfl, hB3⟩)
        | (go_at_call 56; refine (hso w3 (hstep w3 hB3).1 (hstep w3 hB3).2).mono ?_; rintro e w4 ⟨B, rfl, hB, hFB, hB4⟩))
      go_ret2
      have h3 := hB3.size
      exact ⟨B, rfl, by omega, hFB, (hBel.trans (hB3.mono (Nat.le_of_lt hlt))).trans (hB4.mono (by omega))⟩

theorem moved_mirror (l : List Cel) (blk off cap : Nat) (w : World) (hl : RowAt w blk off l) (hb : blk < w.heap.size) (hn : l.length ≤ 4096) (p q : Nat) (mv : Cel → Cel)
    (hmv : ∀ c ∈ l, ∀ W, Below w.heap.size w W → Calls Try.prog 50 #[.agg #[.int .i64 c.1, .int .i64 c.2.1, .int .i64 c.2.2], .pointer (some ⟨p, 0, none⟩), .pointer (some ⟨q, 0, none⟩)] W fun e W' => e = .returned (.agg #[.int .i64 (mv c).1, .int .i64 (mv c).2.1, .int .i64 (mv c).2.2]) ∧ Below W.heap.size W W')
    (hfit : ∀ c ∈ l.map mv, vecI c 1000 = 0) (hnd : (l.map mv).Nodup) :
    Calls Try.prog 49 #[.slice (some ⟨blk, off, none⟩) l.length cap, .func (.func 50) #[] #[.pointer (some ⟨p, 0, none⟩), .pointer (some ⟨q, 0, none⟩)]] w fun e w' => ∃ B, e = .returned (.tuple #[.slice (some ⟨B, 0, none⟩) l.length l.length, .int .i64 0]) ∧ w.heap.size ≤ B ∧ Filled w' B l.length 32 (sortC (l.map mv)) ∧ Below w.heap.size w w' := by
  obtain ⟨j0, hj, hy0, hy1, hy2⟩ := info_parts (P := Try.prog) (e := 32) (z := .agg #[.int .i64 0, .int .i64 0, .int .i64 0]) (size := 3) (bytes := 24) (by kernel_rfl)
  have hml : (l.map mv).length = l.length := List.length_map _
  obtain ⟨m, hmm⟩ : ∃ m, m = l.map mv := ⟨_, rfl⟩
  have hat : ∀ (k : Nat) (c : Cel), l[k]? = some c → m[k]? = some (mv c) := fun k c h => by rw [hmm, List.getElem?_map, h]; rfl
  rw [← hmm] at hfit hnd hml ⊢
  clear hmm
  go_enter Try.func49, Try.ntmps49
  go_wp2_with (at_make; refine wpList_make_full _ rfl _ _ 22 rfl w.heap.size 32 j0 _ 3 Try.underlying22 hj hy0 hy1 .i64 .i64 _ _ l.length rfl rfl rfl rfl ?c1 ?c2 ?c3 ?_)
  case c1 => rw [hy2]; omega
  case c2 => unfold maxLen; omega
  case c3 => exact Nat.le_refl _
  intro w1 hown hgrow
  have hF1 := made_filled rfl hown m
  have hB1 : Below w.heap.size w w1 := (Below.refl _ _).grown hgrow (Nat.le_refl _) (fun k hk => by cases hk)
  clear hown hgrow
  go_wp2
  go_loopw [15] (fun i wr => ∃ k : Nat, k ≤ l.length ∧ i = .int .i64 k ∧ Filled wr w.heap.size l.length 32 (m.take k) ∧ w.heap.size < wr.heap.size ∧ Below w.heap.size w wr) (fun i _ => l.length - (intOf i).toNat)
  case atStart => exact ⟨0, Nat.zero_le _, rfl, hF1.1, hF1.2, hB1⟩
  case round =>
    obtain ⟨k, hk, rfl, hF, hlt, hBel⟩ := hrel
    rcases Nat.lt_or_eq_of_le hk with hkn | rfl
    · obtain ⟨x, y, z, hc⟩ : ∃ x y z, l[k]? = some (x, y, z) := ⟨_, _, _, List.getElem?_eq_getElem hkn⟩
      have hcm := hmv (x, y, z) (List.mem_of_getElem? hc)
      have hmk := hat k _ hc
      obtain ⟨x', y', z', hxyz⟩ : ∃ x' y' z', mv (x, y, z) = (x', y', z') := ⟨_, _, _, rfl⟩
      rw [hxyz] at hcm hmk
      dsimp only at hcm
      obtain ⟨r0, r1, r2⟩ := hl k _ hc
      rw [← hBel.cell (p := ⟨blk, off + k * 3, none⟩) hb] at r0
      rw [← hBel.cell (p := ⟨blk, off + k * 3 + 1, none⟩) hb] at r1
      rw [← hBel.cell (p := ⟨blk, off + k * 3 + 2, none⟩) hb] at r2
      have hBa := hBel.alloc (Nat.le_of_lt hlt) (.cells #[.int .i64 x, .int .i64 y, .int .i64 z] 32)
      have hcall := hcm _ hBa
      have hi0 : (0 : Int) ≤ k := by omega
      have hi1 : (k : Int) < l.length := by omega
      have hFa := hF.below ((Below.refl wr.heap.size wr).alloc (Nat.le_refl _) (.cells #[.int .i64 x, .int .i64 y, .int .i64 z] 32)) hlt
      have hlt2 : w.heap.size < (wr.alloc (.cells #[.int .i64 x, .int .i64 y, .int .i64 z] 32)).heap.size := by simp; omega
      clear hB1 hF1 hl hfit hnd hmv hat hc hcm hxyz hml hF hBel
      go_wp2_with (go_at_call 50; refine hcall.mono ?_; rintro e w2 ⟨rfl, hB2⟩; have hF2 := hFa.below hB2 hlt2; have fz := hF2.fz; obtain ⟨v0, o0⟩ := hF2.old (j := k * 3) (by omega); obtain ⟨v1, o1⟩ := hF2.old (j := k * 3 + 1) (by omega); obtain ⟨v2, o2⟩ := hF2.old (j := k * 3 + 2) (by omega))
      have hsz := hB2.size
      refine ⟨⟨k + 1, hkn, rfl, hF2.put3 hkn hmk, by simp [World.setCell]; omega, below3' (hBa.trans (hB2.mono (Nat.le_of_lt hlt2))) k _ _ _⟩, ?_⟩
      simp [intOf]; omega
    · clear hl hF1 hB1 hmv hat
      rw [List.take_of_length_le (by rw [hml]; exact Nat.le_refl _)] at hF
      have hrow := hF.row
      have hce := checkEach_ok m w.heap.size 0 m.length wr hrow hlt (by rw [hml]; exact hn) hfit
      have hso := fun W (hr : RowAt W w.heap.size 0 m) (hb : w.heap.size < W.heap.size) => sorted_ok m w.heap.size 0 m.length W hr hb (by rw [hml]; exact hn) hnd
      rw [hml] at hce hso
      have hstep : ∀ W, Below wr.heap.size wr W → RowAt W w.heap.size 0 m ∧ w.heap.size < W.heap.size := fun W hW => ⟨(hF.below hW hlt).row, Nat.lt_of_lt_of_le hlt hW.size⟩
      clear hfit hnd hml hrow hF
      go_wp2_with (first
        | (go_at_call 30; refine hce.mono ?_; rintro e w3 ⟨rfl, hB3⟩)
        | (go_at_call 56; refine (hso w3 (hstep w3 hB3).1 (hstep w3 hB3).2).mono ?_; rintro e w4 ⟨B, rfl, hB, hFB, hB4⟩))
      go_ret2
      have h3 := hB3.size
      exact ⟨B, rfl, by omega, hFB, (hBel.trans (hB3.mono (Nat.le_of_lt hlt))).trans (hB4.mono (by omega))⟩

end Go.Proofs
end

section
namespace Go.Proofs
open Go.RowKit
set_option maxHeartbeats 8000000
set_option maxRecDepth 1000000
/-- What a turn's code takes of a vector. -/
def pickI (x y z : Int) : Nat → Int
  | 0 => x
  | 1 => -x
  | 2 => y
  | 3 => -y
  | 4 => z
  | _ => -z
def outV (a b c : Int) : Nat → Array Value
  | 0 => #[.int .i64 0, .int .i64 0, .int .i64 0]
  | 1 => #[.int .i64 a, .int .i64 0, .int .i64 0]
  | 2 => #[.int .i64 a, .int .i64 b, .int .i64 0]
  | _ => #[.int .i64 a, .int .i64 b, .int .i64 c]
theorem of_ok (a b c : Nat) (ha : a < 6) (hb : b < 6) (hc : c < 6) (x y z : Int) (w : World) (k1 : -9000000 ≤ x ∧ x ≤ 9000000) (k2 : -9000000 ≤ y ∧ y ≤ 9000000) (k3 : -9000000 ≤ z ∧ z ≤ 9000000) :
    Calls Try.prog 53 #[.agg #[.int .i64 a, .int .i64 b, .int .i64 c], .agg #[.int .i64 x, .int .i64 y, .int .i64 z]] w fun e w' => e = .returned (.agg #[.int .i64 (pickI x y z a), .int .i64 (pickI x y z b), .int .i64 (pickI x y z c)]) ∧ Below w.heap.size w w' := by
  have w1 : wrap64 (-x) = -x := by unfold wrap64; omega
  have w2 : wrap64 (-y) = -y := by unfold wrap64; omega
  have w3 : wrap64 (-z) = -z := by unfold wrap64; omega
  have i0 : ∀ (u v t : Value) W, (Instr.index 81 (.agg #[u, v, t]) (.int .i64 0)).run Try.prog W = .ok u W := fun _ _ _ _ => by kernel_rfl
  have i1 : ∀ (u v t : Value) W, (Instr.index 81 (.agg #[u, v, t]) (.int .i64 1)).run Try.prog W = .ok v W := fun _ _ _ _ => by kernel_rfl
  have i2 : ∀ (u v t : Value) W, (Instr.index 81 (.agg #[u, v, t]) (.int .i64 2)).run Try.prog W = .ok t W := fun _ _ _ _ => by kernel_rfl
  clear k1 k2 k3
  obtain ⟨T, hT⟩ : ∃ T, T = 80 := ⟨_, rfl⟩
  go_enter Try.func53, Try.ntmps53
  go_wp2
  go_loopw [9] (fun i wr => ∃ k : Nat, k ≤ 3 ∧ i = .int .i64 k ∧ wr = (((w.alloc (.cells #[.int .i64 a, .int .i64 b, .int .i64 c] 81)).alloc (.cells #[.int .i64 x, .int .i64 y, .int .i64 z] 80)).alloc (.cells #[.int .i64 0, .int .i64 0, .int .i64 0] 80)).alloc (.cells (outV (pickI x y z a) (pickI x y z b) (pickI x y z c) k) 80)) (fun i _ => 3 - (intOf i).toNat)
  case atStart => exact ⟨0, Nat.zero_le _, rfl, rfl⟩
  case round =>
    obtain ⟨k, hk, rfl, rfl⟩ := hrel
    obtain rfl | rfl | rfl | rfl : k = 0 ∨ k = 1 ∨ k = 2 ∨ k = 3 := by omega
    · obtain rfl | rfl | rfl | rfl | rfl | rfl : a = 0 ∨ a = 1 ∨ a = 2 ∨ a = 3 ∨ a = 4 ∨ a = 5 := by omega
      all_goals simp only [outV]
      all_goals simp only [pickI]
      all_goals go_wp2
      all_goals exact ⟨⟨1, by omega, rfl, rfl⟩, by decide⟩
    · obtain rfl | rfl | rfl | rfl | rfl | rfl : b = 0 ∨ b = 1 ∨ b = 2 ∨ b = 3 ∨ b = 4 ∨ b = 5 := by omega
      all_goals simp only [outV]
      all_goals generalize hpa : pickI x y z a = pa
      all_goals simp only [pickI]
      all_goals clear hpa
      all_goals go_wp2
      all_goals exact ⟨⟨2, by omega, rfl, rfl⟩, by decide⟩
    · obtain rfl | rfl | rfl | rfl | rfl | rfl : c = 0 ∨ c = 1 ∨ c = 2 ∨ c = 3 ∨ c = 4 ∨ c = 5 := by omega
      all_goals simp only [outV]
      all_goals generalize pickI x y z a = pa
      all_goals generalize pickI x y z b = pb
      all_goals simp only [pickI]
      all_goals go_wp2
      all_goals exact ⟨⟨3, by omega, rfl, rfl⟩, by decide⟩
    · simp only [outV]
      clear hT
      go_wp2
      (try simp only [Exit.inBlock, Exit.then])
      refine bodyPost_ret (results_cell_row rfl _ _ _ 80 #[.int .i64 (pickI x y z a), .int .i64 (pickI x y z b), .int .i64 (pickI x y z c)] (0, 0) _ rfl ?hg Try.underlying80 rfl (by kernel_rfl)) rfl ?_
      case hg =>
        have e : ((w.alloc (.cells #[.int .i64 a, .int .i64 b, .int .i64 c] 81)).alloc (.cells #[.int .i64 x, .int .i64 y, .int .i64 z] 80)).heap.size = w.heap.size + 2 := by simp
        have := heap_alloc2_old ((w.alloc (.cells #[.int .i64 a, .int .i64 b, .int .i64 c] 81)).alloc (.cells #[.int .i64 x, .int .i64 y, .int .i64 z] 80)) (.cells #[.int .i64 (pickI x y z a), .int .i64 (pickI x y z b), .int .i64 (pickI x y z c)] 80) (.cells #[.int .i64 (pickI x y z a), .int .i64 (pickI x y z b), .int .i64 (pickI x y z c)] 80)
        rw [e] at this
        exact this
      exact ⟨rfl, ((((Below.refl _ _).alloc (Nat.le_refl _) _).alloc (by simp) _).alloc (by simp; omega) _).alloc (by simp; omega) _⟩
/-- A cell, turned about another one. -/
def turnC (a b c : Nat) (o p : Cel) : Cel := (o.1 + pickI (p.1 - o.1) (p.2.1 - o.2.1) (p.2.2 - o.2.2) a, o.2.1 + pickI (p.1 - o.1) (p.2.1 - o.2.1) (p.2.2 - o.2.2) b, o.2.2 + pickI (p.1 - o.1) (p.2.1 - o.2.1) (p.2.2 - o.2.2) c)
theorem pickI_le {x y z n : Int} (k1 : -n ≤ x ∧ x ≤ n) (k2 : -n ≤ y ∧ y ≤ n) (k3 : -n ≤ z ∧ z ≤ n) (a : Nat) : -n ≤ pickI x y z a ∧ pickI x y z a ≤ n := by
  unfold pickI
  split <;> omega
end Go.Proofs
end

section
namespace Go.Proofs
open Go.RowKit
set_option maxHeartbeats 8000000
set_option maxRecDepth 1000000
theorem turn1_ok (a b c : Nat) (ha : a < 6) (hb : b < 6) (hc : c < 6) (x y z ox oy oz : Int) (p q : Nat) (w : World)
    (h0 : w.cell? ⟨p, 0, none⟩ = some (.int .i64 a)) (h1 : w.cell? ⟨p, 1, none⟩ = some (.int .i64 b)) (h2 : w.cell? ⟨p, 2, none⟩ = some (.int .i64 c)) (hp : p < w.heap.size)
    (g0 : w.cell? ⟨q, 0, none⟩ = some (.int .i64 ox)) (g1 : w.cell? ⟨q, 1, none⟩ = some (.int .i64 oy)) (g2 : w.cell? ⟨q, 2, none⟩ = some (.int .i64 oz)) (hq : q < w.heap.size)
    (k1 : -1000 ≤ x ∧ x ≤ 1000) (k2 : -1000 ≤ y ∧ y ≤ 1000) (k3 : -1000 ≤ z ∧ z ≤ 1000) (j1 : -1000 ≤ ox ∧ ox ≤ 1000) (j2 : -1000 ≤ oy ∧ oy ≤ 1000) (j3 : -1000 ≤ oz ∧ oz ≤ 1000) :
    Calls Try.prog 52 #[.agg #[.int .i64 x, .int .i64 y, .int .i64 z], .pointer (some ⟨p, 0, none⟩), .pointer (some ⟨q, 0, none⟩)] w fun e w' => e = .returned (.agg #[.int .i64 (turnC a b c (ox, oy, oz) (x, y, z)).1, .int .i64 (turnC a b c (ox, oy, oz) (x, y, z)).2.1, .int .i64 (turnC a b c (ox, oy, oz) (x, y, z)).2.2]) ∧ Below w.heap.size w w' := by
  unfold turnC
  dsimp only
  have d1 : IntKind.i64.wrap (x - ox) = x - ox := wrapS (by omega)
  have d2 : IntKind.i64.wrap (y - oy) = y - oy := wrapS (by omega)
  have d3 : IntKind.i64.wrap (z - oz) = z - oz := wrapS (by omega)
  have hof := fun W => of_ok a b c ha hb hc (x - ox) (y - oy) (z - oz) W (by omega) (by omega) (by omega)
  have p1 := pickI_le (n := 2000) (x := x - ox) (y := y - oy) (z := z - oz) (by omega) (by omega) (by omega) a
  have p2 := pickI_le (n := 2000) (x := x - ox) (y := y - oy) (z := z - oz) (by omega) (by omega) (by omega) b
  have p3 := pickI_le (n := 2000) (x := x - ox) (y := y - oy) (z := z - oz) (by omega) (by omega) (by omega) c
  generalize pickI (x - ox) (y - oy) (z - oz) a = r1 at hof p1 ⊢
  generalize pickI (x - ox) (y - oy) (z - oz) b = r2 at hof p2 ⊢
  generalize pickI (x - ox) (y - oy) (z - oz) c = r3 at hof p3 ⊢
  have e1 : IntKind.i64.wrap (ox + r1) = ox + r1 := wrapS (by omega)
  have e2 : IntKind.i64.wrap (oy + r2) = oy + r2 := wrapS (by omega)
  have e3 : IntKind.i64.wrap (oz + r3) = oz + r3 := wrapS (by omega)
  have n1 : p ≠ w.heap.size := by omega
  have n2 : p ≠ w.heap.size + 1 := by omega
  have m1 : q ≠ w.heap.size := by omega
  have m2 : q ≠ w.heap.size + 1 := by omega
  clear k1 k2 k3 j1 j2 j3 p1 p2 p3
  obtain ⟨W, hW⟩ : ∃ W, W = (w.alloc (.cells #[.int .i64 x, .int .i64 y, .int .i64 z] 32)).alloc (.cells #[.int .i64 0, .int .i64 0, .int .i64 0] 32) := ⟨_, rfl⟩
  have hBW : Below w.heap.size w W := by subst hW; exact ((Below.refl _ _).alloc (Nat.le_refl _) _).alloc (by simp) _
  have hsz : w.heap.size + 1 < W.heap.size := by subst hW; simp
  have hnw : W.heap[w.heap.size + 1]? = some (.cells #[.int .i64 0, .int .i64 0, .int .i64 0] 32 (0, 0)) := by
    subst hW
    have := heap_alloc_new (w.alloc (.cells #[.int .i64 x, .int .i64 y, .int .i64 z] 32)) (.cells #[.int .i64 0, .int .i64 0, .int .i64 0] 32)
    rw [show (w.alloc (.cells #[.int .i64 x, .int .i64 y, .int .i64 z] 32)).heap.size = w.heap.size + 1 by simp] at this
    exact this
  have f0 : ∀ W', Below W.heap.size W W' → W'.cell? ⟨q, 0, none⟩ = some (.int .i64 ox) ∧ W'.cell? ⟨q, 1, none⟩ = some (.int .i64 oy) ∧ W'.cell? ⟨q, 2, none⟩ = some (.int .i64 oz) := fun W' h => by
    have h' := hBW.trans (h.mono hBW.size)
    exact ⟨(h'.cell (p := ⟨q, 0, none⟩) hq).trans g0, (h'.cell (p := ⟨q, 1, none⟩) hq).trans g1, (h'.cell (p := ⟨q, 2, none⟩) hq).trans g2⟩
  go_enter Try.func52, Try.ntmps52
  go_wp2_with (go_at_call 53; (refine (hof _).mono ?_; rintro e w2 ⟨rfl, hB2⟩; rw [← hW] at hB2; obtain ⟨q0, q1, q2⟩ := f0 w2 hB2; have hz2 := (hB2.block _ hsz).trans hnw; have o0 : w2.cell? ⟨w.heap.size + 1, 0, none⟩ = some (.int .i64 0) := (by simp [World.cell?, hz2]); have o1 : w2.cell? ⟨w.heap.size + 1, 1, none⟩ = some (.int .i64 0) := (by simp [World.cell?, hz2]); have o2 : w2.cell? ⟨w.heap.size + 1, 2, none⟩ = some (.int .i64 0) := (by simp [World.cell?, hz2]); have fz := fun j => frozen_of_row w2 (w.heap.size + 1) j _ _ hz2; have hq2 : q < w2.heap.size := (by have := hB2.size; have := hBW.size; omega); have hq3 : q ≠ w2.heap.size := (by omega); have hs2 : w.heap.size + 1 < w2.heap.size := (by have := hB2.size; omega); have hs3 : w.heap.size + 1 ≠ w2.heap.size := (by omega)))
  have hB3 : Below w.heap.size w w2 := hBW.trans (hB2.mono hBW.size)
  have g3 := heap_setCell_same _ (w.heap.size + 1) 2 _ _ (.int .i64 (oz + r3)) (heap_setCell_same _ (w.heap.size + 1) 1 _ _ (.int .i64 (oy + r2)) (heap_setCell_same w2 (w.heap.size + 1) 0 _ _ (.int .i64 (ox + r1)) hz2))
  (try simp only [Exit.inBlock, Exit.then])
  refine bodyPost_ret (results_cell_row rfl _ _ _ 32 #[.int .i64 (ox + r1), .int .i64 (oy + r2), .int .i64 (oz + r3)] (0, 0) _ rfl ?hg Try.underlying32 rfl (by kernel_rfl)) rfl ?_
  case hg =>
    rw [Below.heap_alloc _ _ _ (by simpa [World.setCell] using hs2)]
    exact g3
  refine ⟨rfl, ?_⟩
  refine Below.alloc (((hB3.setCell (p := ⟨w.heap.size + 1, 0, none⟩) (Nat.le_succ _) _).setCell (p := ⟨w.heap.size + 1, 1, none⟩) (Nat.le_succ _) _).setCell (p := ⟨w.heap.size + 1, 2, none⟩) (Nat.le_succ _) _) ?_ _
  simp [World.setCell]
  omega
end Go.Proofs
end

section
namespace Go.Proofs
open Go.AM Go.RowKit
set_option maxRecDepth 1000000
def turnT : List (Nat × Nat × Nat) := [(0, 2, 4), (0, 3, 5), (0, 4, 3), (0, 5, 2), (1, 2, 5), (1, 3, 4), (1, 4, 2), (1, 5, 3), (2, 0, 5), (2, 1, 4), (2, 4, 0), (2, 5, 1), (3, 0, 4), (3, 1, 5), (3, 4, 1), (3, 5, 0), (4, 0, 2), (4, 1, 3), (4, 2, 1), (4, 3, 0), (5, 0, 3), (5, 1, 2), (5, 2, 0), (5, 3, 1)]
noncomputable def turnsV : Value := .agg #[.int .i64 0, .int .i64 2, .int .i64 4, .int .i64 0, .int .i64 3, .int .i64 5, .int .i64 0, .int .i64 4, .int .i64 3, .int .i64 0, .int .i64 5, .int .i64 2, .int .i64 1, .int .i64 2, .int .i64 5, .int .i64 1, .int .i64 3, .int .i64 4, .int .i64 1, .int .i64 4, .int .i64 2, .int .i64 1, .int .i64 5, .int .i64 3, .int .i64 2, .int .i64 0, .int .i64 5, .int .i64 2, .int .i64 1, .int .i64 4, .int .i64 2, .int .i64 4, .int .i64 0, .int .i64 2, .int .i64 5, .int .i64 1, .int .i64 3, .int .i64 0, .int .i64 4, .int .i64 3, .int .i64 1, .int .i64 5, .int .i64 3, .int .i64 4, .int .i64 1, .int .i64 3, .int .i64 5, .int .i64 0, .int .i64 4, .int .i64 0, .int .i64 2, .int .i64 4, .int .i64 1, .int .i64 3, .int .i64 4, .int .i64 2, .int .i64 1, .int .i64 4, .int .i64 3, .int .i64 0, .int .i64 5, .int .i64 0, .int .i64 3, .int .i64 5, .int .i64 1, .int .i64 2, .int .i64 5, .int .i64 2, .int .i64 0, .int .i64 5, .int .i64 3, .int .i64 1]
theorem turns_runs : (callF Try.prog noSum 100000 51 [] h0).map (·.1) = some turnsV := by kernel_rfl
theorem turns_ok (w : World) : Calls Try.prog 51 #[] w fun e w' => e = .returned turnsV ∧ Below w.heap.size w w' := by
  have e := turns_runs
  rw [callF_eq] at e
  obtain ⟨⟨v, h'⟩, he, hv⟩ := Option.map_eq_some_iff.1 e
  simp only at hv
  subst hv
  refine (closed_callS wax_names wax_mixed noSum_ok (w := w) he rfl).mono ?_
  rintro e w' ⟨v', θ', rfl, hv, _, hb⟩
  exact ⟨by rw [flat_eq rfl hv], hb⟩
end Go.Proofs
end

section
namespace Go.Proofs
open Go.RowKit
set_option maxHeartbeats 8000000
set_option maxRecDepth 1000000
def turnA (n : Nat) : Nat × Nat × Nat := turnT.getD n (0, 0, 0)
theorem turn_index (n : Nat) (hn : n < 24) (w : World) : (Instr.index 82 turnsV (.int .i64 n)).run Try.prog w = .ok (.agg #[.int .i64 (turnA n).1, .int .i64 (turnA n).2.1, .int .i64 (turnA n).2.2]) w := by
  obtain rfl | rfl | rfl | rfl | rfl | rfl | rfl | rfl | rfl | rfl | rfl | rfl | rfl | rfl | rfl | rfl | rfl | rfl | rfl | rfl | rfl | rfl | rfl | rfl : n = 0 ∨ n = 1 ∨ n = 2 ∨ n = 3 ∨ n = 4 ∨ n = 5 ∨ n = 6 ∨ n = 7 ∨ n = 8 ∨ n = 9 ∨ n = 10 ∨ n = 11 ∨ n = 12 ∨ n = 13 ∨ n = 14 ∨ n = 15 ∨ n = 16 ∨ n = 17 ∨ n = 18 ∨ n = 19 ∨ n = 20 ∨ n = 21 ∨ n = 22 ∨ n = 23 := by omega
  all_goals kernel_rfl
theorem turn_ok (l : List Cel) (blk off cap : Nat) (n : Nat) (hn24 : n < 24) (o : Cel) (w : World) (hl : RowAt w blk off l) (hb : blk < w.heap.size) (hn : l.length ≤ 4096) (hfit : ∀ c ∈ l, vecI c 1000 = 0) (hasc : Asc l) (ho : vecI o 1000 = 0)
    (h6 : (turnA n).1 < 6 ∧ (turnA n).2.1 < 6 ∧ (turnA n).2.2 < 6) (hob : (-1000 ≤ o.1 ∧ o.1 ≤ 1000) ∧ (-1000 ≤ o.2.1 ∧ o.2.1 ≤ 1000) ∧ (-1000 ≤ o.2.2 ∧ o.2.2 ≤ 1000))
    (hfit2 : ∀ c ∈ l.map (turnC (turnA n).1 (turnA n).2.1 (turnA n).2.2 o), vecI c 1000 = 0) (hnd : (l.map (turnC (turnA n).1 (turnA n).2.1 (turnA n).2.2 o)).Nodup) (hbig : ∀ c ∈ l, (-1000 ≤ c.1 ∧ c.1 ≤ 1000) ∧ (-1000 ≤ c.2.1 ∧ c.2.1 ≤ 1000) ∧ (-1000 ≤ c.2.2 ∧ c.2.2 ≤ 1000)) :
    Calls Try.prog 23 #[.slice (some ⟨blk, off, none⟩) l.length cap, .int .i64 n, .agg #[.int .i64 o.1, .int .i64 o.2.1, .int .i64 o.2.2]] w fun e w' => ∃ B, e = .returned (.tuple #[.slice (some ⟨B, 0, none⟩) l.length l.length, .int .i64 0]) ∧ w.heap.size ≤ B ∧ Filled w' B l.length 32 (sortC (l.map (turnC (turnA n).1 (turnA n).2.1 (turnA n).2.2 o))) ∧ Below w.heap.size w w' := by
  obtain ⟨ox, oy, oz⟩ := o
  have hix := fun W => turn_index n hn24 W
  generalize turnA n = tn at hix h6 hfit2 hnd ⊢
  obtain ⟨a, b, c⟩ := tn
  dsimp only at hix h6 hfit2 hnd hob ⊢
  have hmf : ∀ (fn : Fn) (first cap : Array Value) (w : World), (Instr.makeFunc fn first cap).run Try.prog w = .ok (.func fn first cap) w := fun _ _ _ _ => rfl
  have hwj : withinI n 0 23 = 0 := by unfold withinI; rw [if_neg (by omega)]
  have hcc := fun W => checkCell_ok ox oy oz W
  rw [ho] at hcc
  obtain ⟨W, hW⟩ : ∃ W, W = (w.alloc (.cells #[.int .i64 ox, .int .i64 oy, .int .i64 oz] 32)) := ⟨_, rfl⟩
  have b0 : W.cell? ⟨w.heap.size, 0, none⟩ = some (.int .i64 ox) := by subst hW; go_simp
  have b1 : W.cell? ⟨w.heap.size, 1, none⟩ = some (.int .i64 oy) := by subst hW; go_simp
  have b2 : W.cell? ⟨w.heap.size, 2, none⟩ = some (.int .i64 oz) := by subst hW; go_simp
  have hBW : Below w.heap.size w W := by subst hW; exact (Below.refl _ _).alloc (Nat.le_refl _) _
  have hs : w.heap.size < W.heap.size := by subst hW; simp
  have hlW : RowAt W blk off l := fun i c h => by
    obtain ⟨r0, r1, r2⟩ := hl i c h
    exact ⟨by rw [hBW.cell hb]; exact r0, by rw [hBW.cell hb]; exact r1, by rw [hBW.cell hb]; exact r2⟩
  have hck := gridCheck_ok l blk off cap W.drew hlW (Nat.lt_trans hb hs) hn hfit hasc
  have hmov : ∀ W6, Below W.heap.size W W6 → Calls Try.prog 49 #[.slice (some ⟨blk, off, none⟩) l.length cap, .func (.func 52) #[] #[.pointer (some ⟨W6.heap.size, 0, none⟩), .pointer (some ⟨w.heap.size, 0, none⟩)]] (W6.alloc (.cells #[.int .i64 a, .int .i64 b, .int .i64 c] 81)) fun e w' => ∃ B, e = .returned (.tuple #[.slice (some ⟨B, 0, none⟩) l.length l.length, .int .i64 0]) ∧ w.heap.size ≤ B ∧ Filled w' B l.length 32 (sortC (l.map (turnC a b c (ox, oy, oz)))) ∧ Below w.heap.size w w' := fun W6 h6' => by
    obtain ⟨W5, hW5⟩ : ∃ W5, W5 = (W6.alloc (.cells #[.int .i64 a, .int .i64 b, .int .i64 c] 81)) := ⟨_, rfl⟩
    have p0 : W5.cell? ⟨W6.heap.size, 0, none⟩ = some (.int .i64 a) := by subst hW5; go_simp
    have p1 : W5.cell? ⟨W6.heap.size, 1, none⟩ = some (.int .i64 b) := by subst hW5; go_simp
    have p2 : W5.cell? ⟨W6.heap.size, 2, none⟩ = some (.int .i64 c) := by subst hW5; go_simp
    have hp5 : W6.heap.size < W5.heap.size := by subst hW5; simp
    have h5 : Below W.heap.size W W5 := by subst hW5; exact h6'.alloc h6'.size _
    rw [← hW5]
    clear hW5
    have h5' : Below w.heap.size w W5 := hBW.trans (h5.mono hBW.size)
    refine (moved_turn l blk off cap W5 (fun i c h => ?_) (Nat.lt_of_lt_of_le hb h5'.size) hn W6.heap.size w.heap.size (turnC a b c (ox, oy, oz)) (fun d hd W7 h7 => ?_) hfit2 hnd).mono ?_
    · obtain ⟨r0, r1, r2⟩ := hl i c h
      exact ⟨by rw [h5'.cell hb]; exact r0, by rw [h5'.cell hb]; exact r1, by rw [h5'.cell hb]; exact r2⟩
    · obtain ⟨k1, k2, k3⟩ := hbig d hd
      have hs5 : w.heap.size < W5.heap.size := Nat.lt_of_lt_of_le hs h5.size
      exact turn1_ok a b c h6.1 h6.2.1 h6.2.2 d.1 d.2.1 d.2.2 ox oy oz W6.heap.size w.heap.size W7 ((h7.cell (p := ⟨W6.heap.size, 0, none⟩) hp5).trans p0) ((h7.cell (p := ⟨W6.heap.size, 1, none⟩) hp5).trans p1) ((h7.cell (p := ⟨W6.heap.size, 2, none⟩) hp5).trans p2) (Nat.lt_of_lt_of_le hp5 h7.size)
        ((h7.cell (p := ⟨w.heap.size, 0, none⟩) hs5).trans ((h5.cell (p := ⟨w.heap.size, 0, none⟩) hs).trans b0)) ((h7.cell (p := ⟨w.heap.size, 1, none⟩) hs5).trans ((h5.cell (p := ⟨w.heap.size, 1, none⟩) hs).trans b1))
        ((h7.cell (p := ⟨w.heap.size, 2, none⟩) hs5).trans ((h5.cell (p := ⟨w.heap.size, 2, none⟩) hs).trans b2)) (Nat.lt_of_lt_of_le hs5 h7.size) k1 k2 k3 hob.1 hob.2.1 hob.2.2
    · rintro e w' ⟨B, rfl, hB, hF, hBe⟩
      exact ⟨B, rfl, Nat.le_trans h5'.size hB, hF, h5'.trans (hBe.mono h5'.size)⟩
  clear hfit2 hnd hbig hl hob h6 ho
  go_enter Try.func23, Try.ntmps23
  go_wp2
  rw [← hW]
  clear hW hfit hasc hlW hBW
  go_region_held3 (fun w' => w'.cell? ⟨w.heap.size, 0, none⟩ = some (.int .i64 ox) ∧ w'.cell? ⟨w.heap.size, 1, none⟩ = some (.int .i64 oy) ∧ w'.cell? ⟨w.heap.size, 2, none⟩ = some (.int .i64 oz)) (first | exact ⟨e0, e1, e2⟩ | exact ⟨c0, c1, c2⟩ | exact ⟨b0, b1, b2⟩ | go_keep) (first
    | (go_at_call 25; refine hck.mono ?_; rintro e w2 ⟨rfl, hB2⟩; have c0 : w2.cell? ⟨w.heap.size, 0, none⟩ = some (.int .i64 ox) := (hB2.cell (p := ⟨w.heap.size, 0, none⟩) hs).trans b0; have c1 : w2.cell? ⟨w.heap.size, 1, none⟩ = some (.int .i64 oy) := (hB2.cell (p := ⟨w.heap.size, 1, none⟩) hs).trans b1; have c2 : w2.cell? ⟨w.heap.size, 2, none⟩ = some (.int .i64 oz) := (hB2.cell (p := ⟨w.heap.size, 2, none⟩) hs).trans b2; have hs2 : w.heap.size < w2.heap.size := Nat.lt_of_lt_of_le hs hB2.size)
    | (go_at_call 26; refine (within_ok _ _ _ _).mono ?_; rintro e w3 ⟨rfl, hw3⟩; subst hw3; try simp only [hwj])
    | (go_at_call 40; refine (hcc _).mono ?_; rintro e w4 ⟨rfl, hB4⟩; have e0 := (hB4.cell (p := ⟨w.heap.size, 0, none⟩) hs2).trans c0; have e1 := (hB4.cell (p := ⟨w.heap.size, 1, none⟩) hs2).trans c1; have e2 := (hB4.cell (p := ⟨w.heap.size, 2, none⟩) hs2).trans c2)
    | (go_at_call 24; refine (first3_ok 0 0 0 _ _ _ ?_ ?_ ?_).mono ?_; (go_simp); (go_simp); (go_simp); rintro e w5 ⟨rfl, hw5⟩; subst hw5))
  have hWe : Below W.heap.size W w3 := ⟨hB2.os, hB2.tape, hB2.output, hB2.size, hB2.block⟩
  have hWg := hWe.trans (hB4.mono hWe.size)
  have hWf := hWg.alloc hWg.size (.cells #[.int .i64 0, .int .i64 0, .int .i64 0] 25)
  have hor : orI 0 0 0 = 0 := by decide
  clear hB2 hB4 hWe hWg hck hwj hcc b0 b1 b2 c0 c1 c2 e0 e1 e2 hs2
  go_wp2_with (first
    | (go_at_call 51; refine (turns_ok _).mono ?_; rintro e w9 ⟨rfl, hB9⟩)
    | (go_at_call 49; refine (hmov w9 (hWf.trans (hB9.mono hWf.size))).mono ?_; rintro e w7 ⟨B, rfl, hB7, hF7, hB8⟩))
  go_ret2
  exact ⟨B, rfl, hB7, hF7, hB8⟩
end Go.Proofs
end

section
/- Sets of cells within a bound, and turned. -/
namespace Go.Proofs
open Go.RowKit Go.AM
set_option maxRecDepth 1000000
set_option maxHeartbeats 4000000
theorem asc_sortC {l : List Cel} (h : l.Nodup) : Asc (sortC l) := by
  intro i a b ha hb
  have hne := sortC_nodup h i a b ha hb
  have tr : ∀ a b c : Cel, (!ltC b a) = true → (!ltC c b) = true → (!ltC c a) = true := fun a b c h1 h2 => by
    simp only [Bool.not_eq_true'] at *
    exact swoC.ntrans c b a h2 h1
  have tot : ∀ a b : Cel, ((!ltC b a) || (!ltC a b)) = true := fun a b => by
    cases h1 : ltC b a with
    | false => rfl
    | true =>
      cases h2 : ltC a b with
      | false => rfl
      | true =>
        have := swoC.trans a b a h2 h1
        rw [swoC.irrefl] at this
        cases this
  have hp := List.pairwise_mergeSort (le := fun x y => !ltC y x) tr tot l
  obtain ⟨i1, e1⟩ := List.getElem?_eq_some_iff.1 ha
  obtain ⟨i2, e2⟩ := List.getElem?_eq_some_iff.1 hb
  have h1 := List.pairwise_iff_getElem.1 hp i (i+1) i1 i2 (Nat.lt_succ_self i)
  have e1' : (l.mergeSort fun x y => !ltC y x)[i] = a := e1
  have e2' : (l.mergeSort fun x y => !ltC y x)[i+1] = b := e2
  rw [e1', e2'] at h1
  have hba : ltC b a = false := by simpa using h1
  cases hab : ltC a b with
  | true => exact (cmp3_lt a b).2 hab
  | false => exact absurd (antiC a b hab hba) hne
theorem vec_of {c : Cel} {n : Int} (h : (-n ≤ c.1 ∧ c.1 ≤ n) ∧ (-n ≤ c.2.1 ∧ c.2.1 ≤ n) ∧ (-n ≤ c.2.2 ∧ c.2.2 ≤ n)) : vecI c n = 0 := by
  unfold vecI withinI
  rw [if_neg (by omega), if_neg (by omega), if_neg (by omega)]
  rfl
theorem mem_sortC {l : List Cel} {c : Cel} : c ∈ sortC l ↔ c ∈ l := (List.mergeSort_perm _ _).mem_iff
def turnB (k : Nat) (o : Cel) : Cel → Cel := turnC (turnA k).1 (turnA k).2.1 (turnA k).2.2 o
theorem nodup_map {f : Cel → Cel} (hf : ∀ p q, f p = f q → p = q) {l : List Cel} (h : l.Nodup) : (l.map f).Nodup :=
  List.Pairwise.map f (fun a b hab e => hab (hf a b e)) h
theorem nodup_sortC {l : List Cel} (h : l.Nodup) : (sortC l).Nodup := (List.mergeSort_perm _ _).nodup_iff.2 h
theorem turnB_inj {k : Nat} (hk : k < 24) (o p q : Cel) (h : turnB k o p = turnB k o q) : p = q := by
  obtain ⟨x, y, z⟩ := p
  obtain ⟨x', y', z'⟩ := q
  obtain ⟨a, b, c⟩ := o
  obtain rfl | rfl | rfl | rfl | rfl | rfl | rfl | rfl | rfl | rfl | rfl | rfl | rfl | rfl | rfl | rfl | rfl | rfl | rfl | rfl | rfl | rfl | rfl | rfl : k = 0 ∨ k = 1 ∨ k = 2 ∨ k = 3 ∨ k = 4 ∨ k = 5 ∨ k = 6 ∨ k = 7 ∨ k = 8 ∨ k = 9 ∨ k = 10 ∨ k = 11 ∨ k = 12 ∨ k = 13 ∨ k = 14 ∨ k = 15 ∨ k = 16 ∨ k = 17 ∨ k = 18 ∨ k = 19 ∨ k = 20 ∨ k = 21 ∨ k = 22 ∨ k = 23 := by omega
  all_goals simp [turnB, turnA, turnT, turnC, pickI] at h ⊢
  all_goals omega
theorem turnA_lt {k : Nat} (hk : k < 24) : (turnA k).1 < 6 ∧ (turnA k).2.1 < 6 ∧ (turnA k).2.2 < 6 := by
  have : ∀ k, k < 24 → (turnA k).1 < 6 ∧ (turnA k).2.1 < 6 ∧ (turnA k).2.2 < 6 := by decide
  exact this k hk
def Near (c : Cel) (b : Int) : Prop := (-b ≤ c.1 ∧ c.1 ≤ b) ∧ (-b ≤ c.2.1 ∧ c.2.1 ≤ b) ∧ (-b ≤ c.2.2 ∧ c.2.2 ≤ b)
/-- A set of cells within b of the middle. -/
structure Good (l : List Cel) (b : Int) : Prop where
  nd : l.Nodup
  asc : Asc l
  near : ∀ c ∈ l, Near c b
theorem Near.mono {c : Cel} {a b : Int} (h : Near c a) (hab : a ≤ b) : Near c b := by
  unfold Near at *
  omega
theorem Good.mono {l : List Cel} {a b : Int} (h : Good l a) (hab : a ≤ b) : Good l b := ⟨h.nd, h.asc, fun c hc => (h.near c hc).mono hab⟩
theorem Good.sort {l : List Cel} {b : Int} (h : l.Nodup) (hn : ∀ c ∈ l, Near c b) : Good (sortC l) b := ⟨nodup_sortC h, asc_sortC h, fun c hc => hn c (mem_sortC.1 hc)⟩
theorem Good.fit {l : List Cel} {b : Int} (h : Good l b) (hb : b ≤ 1000) : ∀ c ∈ l, vecI c 1000 = 0 := fun c hc => vec_of ((h.near c hc).mono hb)
theorem farB_near {c : Cel} {b : Int} (h : Near c b) (hb : b ≤ 1000) : farB c.1 1000 = false ∧ farB c.2.1 1000 = false ∧ farB c.2.2 1000 = false := by
  unfold Near at h
  unfold farB
  refine ⟨decide_eq_false ?_, decide_eq_false ?_, decide_eq_false ?_⟩ <;> omega
theorem turnB_near {k : Nat} {o p : Cel} {b d : Int} (hp : Near p b) (ho : Near o d) : Near (turnB k o p) (b + 2 * d) := by
  unfold Near at *
  have e : ∀ a, -(b + d) ≤ pickI (p.1 - o.1) (p.2.1 - o.2.1) (p.2.2 - o.2.2) a ∧ pickI (p.1 - o.1) (p.2.1 - o.2.1) (p.2.2 - o.2.2) a ≤ b + d := pickI_le (by omega) (by omega) (by omega)
  have e1 := e (turnA k).1
  have e2 := e (turnA k).2.1
  have e3 := e (turnA k).2.2
  unfold turnB turnC
  dsimp only
  omega
theorem near_map {f : Cel → Cel} {l : List Cel} {b : Int} (h : ∀ c ∈ l, Near (f c) b) : ∀ c ∈ l.map f, Near c b := fun c hc => by
  obtain ⟨p, hp, rfl⟩ := List.mem_map.1 hc
  exact h p hp
theorem gTurn {l : List Cel} {b d : Int} (hg : Good l b) {o : Cel} (ho : Near o d) (hd : b + 2 * d ≤ 1000) (hb0 : b ≤ 1000) (hd0 : d ≤ 1000) (hn : l.length ≤ 4096) {k : Nat} (hk : k < 24) {blk off cap : Nat} {w : World} (hl : RowAt w blk off l) (hb : blk < w.heap.size) :
    Good (sortC (l.map (turnB k o))) (b + 2 * d) ∧ Calls Try.prog 23 #[.slice (some ⟨blk, off, none⟩) l.length cap, .int .i64 k, .agg #[.int .i64 o.1, .int .i64 o.2.1, .int .i64 o.2.2]] w fun e w' => ∃ B, e = .returned (.tuple #[.slice (some ⟨B, 0, none⟩) l.length l.length, .int .i64 0]) ∧ w.heap.size ≤ B ∧ Filled w' B l.length 32 (sortC (l.map (turnB k o))) ∧ Below w.heap.size w w' := by
  have hnd := nodup_map (turnB_inj hk o) hg.nd
  have hnr := near_map (f := turnB k o) fun c hc => turnB_near (k := k) (hg.near c hc) ho
  exact ⟨.sort hnd hnr, turn_ok l blk off cap k hk o w hl hb hn (hg.fit hb0) hg.asc (vec_of (ho.mono hd0)) (turnA_lt hk) (ho.mono hd0) (fun c hc => vec_of ((hnr c hc).mono hd)) hnd (fun c hc => (hg.near c hc).mono hb0)⟩
end Go.Proofs
end
