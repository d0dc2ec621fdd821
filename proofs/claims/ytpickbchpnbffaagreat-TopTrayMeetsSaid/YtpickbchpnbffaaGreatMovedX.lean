import Derived.Test.YtpickbchpnbffaaGreatHas
import Derived.Lib.Hide
import Derived.Test.YtpickbchpnbffaaGreatTurn
import Derived.Test.YtpickbchpnbffaaGreatDistP
import Derived.Test.YtpickbchpnbffaaGreatBoundG
section
/- A part of what OutI had: checkEachG, outI, outI_step. -/
namespace Go.Proofs
open Go.RowKit
set_option maxHeartbeats 8000000
set_option maxRecDepth 1000000
/-- The error of a list's cells, one by one. -/
def outI (l : List Cel) : Int := if l.any badC then 3 else 0
theorem outI_step {l : List Cel} {k : Nat} {c : Cel} (hc : l[k]? = some c) : outI (l.drop k) = if badC c then 3 else outI (l.drop (k + 1)) := by
  obtain ⟨h1, h2⟩ := List.getElem?_eq_some_iff.1 hc
  rw [List.drop_eq_getElem_cons h1, h2]
  unfold outI
  rw [List.any_cons]
  cases badC c <;> rfl
theorem checkEachG (l : List Cel) (v : Value) (w : World) (hl : Sl w v l) (hn : l.length ≤ maxLen) :
    Calls Tryz.prog 47 #[v] w fun e w' => e = .returned (.int .i64 (outI l)) ∧ Below w.heap.size w w' := by
  unfold maxLen at hn
  obtain ⟨A, cap, rfl⟩ := hl.form
  go_enter Tryz.func47, Tryz.ntmps47
  go_wp2
  go_loopw [8] (fun i wr => ∃ k : Nat, k ≤ l.length ∧ i = .int .i64 k ∧ Below w.heap.size w wr ∧ outI (l.drop k) = outI l) (fun i _ => l.length - (intOf i).toNat)
  case atStart => exact ⟨0, Nat.zero_le _, rfl, Below.refl _ _, rfl⟩
  case round =>
    obtain ⟨k, hk, rfl, hBel, hch⟩ := hrel
    rename World => w1
    rcases Nat.lt_or_eq_of_le hk with hkn | rfl
    · obtain ⟨b, o, x, y, z, rfl, -, hb, hc, r0, r1, r2⟩ := hl.cells hkn
      rw [outI_step hc] at hch
      have hv := fun W => checkCellG x y z W
      have hsz := hBel.size
      rw [← hBel.cell (p := ⟨b, _, none⟩) hb] at r0 r1 r2
      have hA : Below w.heap.size w (w1.alloc (.cells #[.int .i64 x, .int .i64 y, .int .i64 z] 34)) := hBel.alloc hsz _
      have hAs : w.heap.size ≤ (w1.alloc (.cells #[.int .i64 x, .int .i64 y, .int .i64 z] 34)).heap.size := by simp; omega
      cases hbad : badC (x, y, z) with
      | true =>
        rw [hbad] at hch hv
        simp only [if_true] at hch hv
        have Hch := Lib.hid hch
        clear hl hbad hch
        go_wp2_with (go_at_call 49; refine (hv _).mono ?_; rintro e w2 ⟨rfl, hB2⟩)
        go_ret
        exact ⟨by rw [← Hch.out]; rfl, hA.trans (hB2.mono hAs)⟩
      | false =>
        rw [hbad] at hch hv
        simp only [Bool.false_eq_true, if_false] at hch hv
        have Hch := Lib.hid hch
        clear hl hbad hch
        go_wp2_with (go_at_call 49; refine (hv _).mono ?_; rintro e w2 ⟨rfl, hB2⟩)
        exact ⟨⟨k + 1, hkn, rfl, hA.trans (hB2.mono hAs), Hch.out⟩, by simp [intOf]; omega⟩
    · have e : outI l = 0 := by rw [← hch]; simp [outI]
      have He := Lib.hid e
      clear hl hch e
      go_wp2
      go_ret
      exact ⟨by rw [He.out]; rfl, hBel⟩
end Go.Proofs
end

section
/- OutCells of the reference, checkEach. -/
namespace Go.Proofs
open Go.RowKit
set_option maxHeartbeats 8000000
set_option maxRecDepth 1000000

theorem outCells_ok (l : List Cel) (v : Value) (w : World) (hl : Sl w v l) (hn : l.length ≤ maxLen) :
    Calls Tryz.prog 59 #[v] w fun e w' => e = .returned (.int .i64 (outI l)) ∧ Below w.heap.size w w' := by
  unfold maxLen at hn
  obtain ⟨A, cap, rfl⟩ := hl.form
  go_enter Tryz.func59, Tryz.ntmps59
  go_wp2
  go_loopw [3] (fun i wr => ∃ k : Nat, k ≤ l.length ∧ i = .int .i64 k ∧ Below w.heap.size w wr ∧ outI (l.drop k) = outI l) (fun i _ => l.length - (intOf i).toNat)
  case atStart => exact ⟨0, Nat.zero_le _, rfl, Below.refl _ _, rfl⟩
  case round =>
    obtain ⟨k, hk, rfl, hBel, hch⟩ := hrel
    rename World => w1
    rcases Nat.lt_or_eq_of_le hk with hkn | rfl
    · obtain ⟨b, o, x, y, z, rfl, -, hb, hc, r0, r1, r2⟩ := hl.cells hkn
      rw [outI_step hc] at hch
      have hv := fun W => refCheckCellG x y z W
      have hsz := hBel.size
      rw [← hBel.cell (p := ⟨b, _, none⟩) hb] at r0 r1 r2
      cases hbad : badC (x, y, z) with
      | true =>
        rw [hbad] at hch hv
        simp only [if_true] at hch hv
        have Hch := Lib.hid hch
        clear hl hbad hch
        go_wp2_with (go_at_call 78; refine (hv _).mono ?_; rintro e w2 ⟨rfl, hB2⟩)
        go_ret
        exact ⟨by rw [← Hch.out]; rfl, hBel.trans (hB2.mono hsz)⟩
      | false =>
        rw [hbad] at hch hv
        simp only [Bool.false_eq_true, if_false] at hch hv
        have Hch := Lib.hid hch
        clear hl hbad hch
        go_wp2_with (go_at_call 78; refine (hv _).mono ?_; rintro e w2 ⟨rfl, hB2⟩)
        exact ⟨⟨k + 1, hkn, rfl, hBel.trans (hB2.mono hsz), Hch.out⟩, by simp [intOf]; omega⟩
    · have e : outI l = 0 := by rw [← hch]; simp [outI]
      have He := Lib.hid e
      clear hl hch e
      go_wp2
      go_ret
      exact ⟨by rw [He.out]; rfl, hBel⟩
end Go.Proofs
end

section
/- moved of any set's slice (nil and empty ones too). -/
namespace Go.Proofs
open Go.Shelf Go.RowKit Go.Lib Go.Sort
set_option maxHeartbeats 8000000
set_option maxRecDepth 1000000
theorem movedG_shift (l : List Cel) (v : Value) (w : World) (hl : Sl w v l) (hn : l.length ≤ 4096) (p : Nat) (mv : Cel → Cel)
    (hmv : ∀ c ∈ l, ∀ W, Below w.heap.size w W → Calls Tryz.prog 36 #[.agg #[.int .i64 c.1, .int .i64 c.2.1, .int .i64 c.2.2], .pointer (some ⟨p, 0, none⟩)] W fun e W' => e = .returned (.agg #[.int .i64 (mv c).1, .int .i64 (mv c).2.1, .int .i64 (mv c).2.2]) ∧ Below W.heap.size W W')
    (hfit : ∀ c ∈ l.map mv, vecI c 1000 = 0) (hnd : (l.map mv).Nodup) :
    Calls Tryz.prog 35 #[v, .func (.func 36) #[] #[.pointer (some ⟨p, 0, none⟩)]] w fun e w' => ∃ B, e = .returned (.tuple #[.slice (some ⟨B, 0, none⟩) l.length l.length, .int .i64 0]) ∧ w.heap.size ≤ B ∧ Filled w' B l.length 34 (sortC (l.map mv)) ∧ Below w.heap.size w w' := by
  obtain ⟨j0, hj, hy0, hy1, hy2⟩ := info_parts (P := Tryz.prog) (e := 34) (z := .agg #[.int .i64 0, .int .i64 0, .int .i64 0]) (size := 3) (bytes := 24) (by kernel_rfl)
  have hml : (l.map mv).length = l.length := List.length_map _
  obtain ⟨m, hmm⟩ : ∃ m, m = l.map mv := ⟨_, rfl⟩
  have hat : ∀ (k : Nat) (c : Cel), l[k]? = some c → m[k]? = some (mv c) := fun k c h => by rw [hmm, List.getElem?_map, h]; rfl
  rw [← hmm] at hfit hnd hml ⊢
  clear hmm
  obtain ⟨A, cap, rfl⟩ := hl.form
  go_enter Tryz.func35, Tryz.ntmps35
  go_wp2_with (at_make; refine wpList_make_full _ rfl _ _ 22 rfl w.heap.size 34 j0 _ 3 Tryz.underlying22 hj hy0 hy1 .i64 .i64 _ _ l.length rfl rfl rfl rfl ?c1 ?c2 ?c3 ?_)
  case c1 => rw [hy2]; omega
  case c2 => unfold maxLen; omega
  case c3 => exact Nat.le_refl _
  intro w1 hown hgrow
  have hF1 := made_filled rfl hown m
  have hB1 : Below w.heap.size w w1 := (Below.refl _ _).grown hgrow (Nat.le_refl _) (fun k hk => by cases hk)
  clear hown hgrow
  go_wp2
  go_loopw [15] (fun i wr => ∃ k : Nat, k ≤ l.length ∧ i = .int .i64 k ∧ Filled wr w.heap.size l.length 34 (m.take k) ∧ w.heap.size < wr.heap.size ∧ Below w.heap.size w wr) (fun i _ => l.length - (intOf i).toNat)
  case atStart => exact ⟨0, Nat.zero_le _, rfl, hF1.1, hF1.2, hB1⟩
  case round =>
    obtain ⟨k, hk, rfl, hF, hlt, hBel⟩ := hrel
    rcases Nat.lt_or_eq_of_le hk with hkn | rfl
    · obtain ⟨b, o, x, y, z, rfl, -, hb, hc, r0, r1, r2⟩ := (hl.below hBel).cells hkn
      have hcm := hmv (x, y, z) (List.mem_of_getElem? hc)
      have hmk := hat k _ hc
      obtain ⟨x', y', z', hxyz⟩ : ∃ x' y' z', mv (x, y, z) = (x', y', z') := ⟨_, _, _, rfl⟩
      rw [hxyz] at hcm hmk
      dsimp only at hcm
      have hBa := hBel.alloc (Nat.le_of_lt hlt) (.cells #[.int .i64 x, .int .i64 y, .int .i64 z] 34)
      have hcall := hcm _ hBa
      have hi0 : (0 : Int) ≤ k := by omega
      have hi1 : (k : Int) < l.length := by omega
      have hFa := hF.below ((Below.refl wr.heap.size wr).alloc (Nat.le_refl _) (.cells #[.int .i64 x, .int .i64 y, .int .i64 z] 34)) hlt
      have hlt2 : w.heap.size < (wr.alloc (.cells #[.int .i64 x, .int .i64 y, .int .i64 z] 34)).heap.size := by simp; omega
      clear hB1 hF1 hl hfit hnd hmv hat hc hcm hxyz hml hF hBel
      go_wp2_with (go_at_call 36; refine hcall.mono ?_; rintro e w2 ⟨rfl, hB2⟩; have hF2 := hFa.below hB2 hlt2; have fz := hF2.fz; obtain ⟨v0, o0⟩ := hF2.old (j := k * 3) (by omega); obtain ⟨v1, o1⟩ := hF2.old (j := k * 3 + 1) (by omega); obtain ⟨v2, o2⟩ := hF2.old (j := k * 3 + 2) (by omega))
      have hsz := hB2.size
      refine ⟨⟨k + 1, hkn, rfl, hF2.put3 hkn hmk, by simp [World.setCell]; omega, below3' (hBa.trans (hB2.mono (Nat.le_of_lt hlt2))) k _ _ _⟩, ?_⟩
      simp [intOf]; omega
    · clear hl hF1 hB1 hmv hat
      rw [List.take_of_length_le (by rw [hml]; exact Nat.le_refl _)] at hF
      have hrow := hF.row
      have hce := checkEach_ok m w.heap.size 0 m.length wr hrow hlt (by rw [hml]; exact hn) hfit
      have hso := fun W (hr : RowAt W w.heap.size 0 m) (hb : w.heap.size < W.heap.size) => sorted_ok m w.heap.size 0 m.length W hr hb (by rw [hml]; exact hn) hnd
      rw [hml] at hce hso
      have hstep : ∀ W, Below wr.heap.size wr W → RowAt W w.heap.size 0 m ∧ w.heap.size < W.heap.size := fun W hW => ⟨(hF.below hW hlt).row, Nat.lt_of_lt_of_le hlt hW.size⟩
      clear hfit hnd hml hrow hF
      go_wp2_with (first
        | (go_at_call 47; refine hce.mono ?_; rintro e w3 ⟨rfl, hB3⟩)
        | (go_at_call 74; refine (hso w3 (hstep w3 hB3).1 (hstep w3 hB3).2).mono ?_; rintro e w4 ⟨B, rfl, hB, hFB, hB4⟩))
      go_ret2
      have h3 := hB3.size
      exact ⟨B, rfl, by omega, hFB, (hBel.trans (hB3.mono (Nat.le_of_lt hlt))).trans (hB4.mono (by omega))⟩

theorem movedE_turn (l : List Cel) (v : Value) (w : World) (hl : Sl w v l) (hn : l.length ≤ 4096) (p q : Nat) (mv : Cel → Cel)
    (hmv : ∀ c ∈ l, ∀ W, Below w.heap.size w W → Calls Tryz.prog 51 #[.agg #[.int .i64 c.1, .int .i64 c.2.1, .int .i64 c.2.2], .pointer (some ⟨p, 0, none⟩), .pointer (some ⟨q, 0, none⟩)] W fun e W' => e = .returned (.agg #[.int .i64 (mv c).1, .int .i64 (mv c).2.1, .int .i64 (mv c).2.2]) ∧ Below W.heap.size W W')
    (r : Int) (hr : outI (l.map mv) = r) (h0 : r ≠ 0) :
    Calls Tryz.prog 35 #[v, .func (.func 51) #[] #[.pointer (some ⟨p, 0, none⟩), .pointer (some ⟨q, 0, none⟩)]] w fun e w' => e = .returned (.tuple #[.slice none 0 0, .int .i64 r]) ∧ Below w.heap.size w w' := by
  obtain ⟨j0, hj, hy0, hy1, hy2⟩ := info_parts (P := Tryz.prog) (e := 34) (z := .agg #[.int .i64 0, .int .i64 0, .int .i64 0]) (size := 3) (bytes := 24) (by kernel_rfl)
  have hml : (l.map mv).length = l.length := List.length_map _
  obtain ⟨m, hmm⟩ : ∃ m, m = l.map mv := ⟨_, rfl⟩
  have hat : ∀ (k : Nat) (c : Cel), l[k]? = some c → m[k]? = some (mv c) := fun k c h => by rw [hmm, List.getElem?_map, h]; rfl
  rw [← hmm] at hr hml
  clear hmm
  obtain ⟨A, cap, rfl⟩ := hl.form
  go_enter Tryz.func35, Tryz.ntmps35
  go_wp2_with (at_make; refine wpList_make_full _ rfl _ _ 22 rfl w.heap.size 34 j0 _ 3 Tryz.underlying22 hj hy0 hy1 .i64 .i64 _ _ l.length rfl rfl rfl rfl ?c1 ?c2 ?c3 ?_)
  case c1 => rw [hy2]; omega
  case c2 => unfold maxLen; omega
  case c3 => exact Nat.le_refl _
  intro w1 hown hgrow
  have hF1 := made_filled rfl hown m
  have hB1 : Below w.heap.size w w1 := (Below.refl _ _).grown hgrow (Nat.le_refl _) (fun k hk => by cases hk)
  clear hown hgrow
  go_wp2
  go_loopw [15] (fun i wr => ∃ k : Nat, k ≤ l.length ∧ i = .int .i64 k ∧ Filled wr w.heap.size l.length 34 (m.take k) ∧ w.heap.size < wr.heap.size ∧ Below w.heap.size w wr) (fun i _ => l.length - (intOf i).toNat)
  case atStart => exact ⟨0, Nat.zero_le _, rfl, hF1.1, hF1.2, hB1⟩
  case round =>
    obtain ⟨k, hk, rfl, hF, hlt, hBel⟩ := hrel
    rcases Nat.lt_or_eq_of_le hk with hkn | rfl
    · obtain ⟨b, o, x, y, z, rfl, -, hb, hc, r0, r1, r2⟩ := (hl.below hBel).cells hkn
      have hcm := hmv (x, y, z) (List.mem_of_getElem? hc)
      have hmk := hat k _ hc
      obtain ⟨x', y', z', hxyz⟩ : ∃ x' y' z', mv (x, y, z) = (x', y', z') := ⟨_, _, _, rfl⟩
      rw [hxyz] at hcm hmk
      dsimp only at hcm
      have hBa := hBel.alloc (Nat.le_of_lt hlt) (.cells #[.int .i64 x, .int .i64 y, .int .i64 z] 34)
      have hcall := hcm _ hBa
      have hi0 : (0 : Int) ≤ k := by omega
      have hi1 : (k : Int) < l.length := by omega
      have hFa := hF.below ((Below.refl wr.heap.size wr).alloc (Nat.le_refl _) (.cells #[.int .i64 x, .int .i64 y, .int .i64 z] 34)) hlt
      have hlt2 : w.heap.size < (wr.alloc (.cells #[.int .i64 x, .int .i64 y, .int .i64 z] 34)).heap.size := by simp; omega
      clear hB1 hF1 hl hr h0 hmv hat hc hcm hxyz hml hF hBel
      go_wp2_with (go_at_call 51; refine hcall.mono ?_; rintro e w2 ⟨rfl, hB2⟩; have hF2 := hFa.below hB2 hlt2; have fz := hF2.fz; obtain ⟨v0, o0⟩ := hF2.old (j := k * 3) (by omega); obtain ⟨v1, o1⟩ := hF2.old (j := k * 3 + 1) (by omega); obtain ⟨v2, o2⟩ := hF2.old (j := k * 3 + 2) (by omega))
      have hsz := hB2.size
      refine ⟨⟨k + 1, hkn, rfl, hF2.put3 hkn hmk, by simp [World.setCell]; omega, below3' (hBa.trans (hB2.mono (Nat.le_of_lt hlt2))) k _ _ _⟩, ?_⟩
      simp [intOf]; omega
    · clear hl hF1 hB1 hmv hat
      rw [List.take_of_length_le (by rw [hml]; exact Nat.le_refl _)] at hF
      have hrow := hF.row
      have hce := checkEachG m (.slice (some ⟨w.heap.size, 0, none⟩) m.length m.length) wr (Sl.row hrow hlt) (by rw [hml]; unfold maxLen; omega)
      rw [hml, hr] at hce
      have hne : (r != 0) = true := by rw [bne_iff_ne]; exact h0
      clear hr hml hrow hF h0
      go_wp2_with (go_at_call 47; refine hce.mono ?_; rintro e w3 ⟨rfl, hB3⟩)
      go_ret2
      exact ⟨rfl, hBel.trans (hB3.mono (Nat.le_of_lt hlt))⟩
theorem movedE_shift (l : List Cel) (v : Value) (w : World) (hl : Sl w v l) (hn : l.length ≤ 4096) (p : Nat) (mv : Cel → Cel)
    (hmv : ∀ c ∈ l, ∀ W, Below w.heap.size w W → Calls Tryz.prog 36 #[.agg #[.int .i64 c.1, .int .i64 c.2.1, .int .i64 c.2.2], .pointer (some ⟨p, 0, none⟩)] W fun e W' => e = .returned (.agg #[.int .i64 (mv c).1, .int .i64 (mv c).2.1, .int .i64 (mv c).2.2]) ∧ Below W.heap.size W W')
    (r : Int) (hr : outI (l.map mv) = r) (h0 : r ≠ 0) :
    Calls Tryz.prog 35 #[v, .func (.func 36) #[] #[.pointer (some ⟨p, 0, none⟩)]] w fun e w' => e = .returned (.tuple #[.slice none 0 0, .int .i64 r]) ∧ Below w.heap.size w w' := by
  obtain ⟨j0, hj, hy0, hy1, hy2⟩ := info_parts (P := Tryz.prog) (e := 34) (z := .agg #[.int .i64 0, .int .i64 0, .int .i64 0]) (size := 3) (bytes := 24) (by kernel_rfl)
  have hml : (l.map mv).length = l.length := List.length_map _
  obtain ⟨m, hmm⟩ : ∃ m, m = l.map mv := ⟨_, rfl⟩
  have hat : ∀ (k : Nat) (c : Cel), l[k]? = some c → m[k]? = some (mv c) := fun k c h => by rw [hmm, List.getElem?_map, h]; rfl
  rw [← hmm] at hr hml
  clear hmm
  obtain ⟨A, cap, rfl⟩ := hl.form
  go_enter Tryz.func35, Tryz.ntmps35
  go_wp2_with (at_make; refine wpList_make_full _ rfl _ _ 22 rfl w.heap.size 34 j0 _ 3 Tryz.underlying22 hj hy0 hy1 .i64 .i64 _ _ l.length rfl rfl rfl rfl ?c1 ?c2 ?c3 ?_)
  case c1 => rw [hy2]; omega
  case c2 => unfold maxLen; omega
  case c3 => exact Nat.le_refl _
  intro w1 hown hgrow
  have hF1 := made_filled rfl hown m
  have hB1 : Below w.heap.size w w1 := (Below.refl _ _).grown hgrow (Nat.le_refl _) (fun k hk => by cases hk)
  clear hown hgrow
  go_wp2
  go_loopw [15] (fun i wr => ∃ k : Nat, k ≤ l.length ∧ i = .int .i64 k ∧ Filled wr w.heap.size l.length 34 (m.take k) ∧ w.heap.size < wr.heap.size ∧ Below w.heap.size w wr) (fun i _ => l.length - (intOf i).toNat)
  case atStart => exact ⟨0, Nat.zero_le _, rfl, hF1.1, hF1.2, hB1⟩
  case round =>
    obtain ⟨k, hk, rfl, hF, hlt, hBel⟩ := hrel
    rcases Nat.lt_or_eq_of_le hk with hkn | rfl
    · obtain ⟨b, o, x, y, z, rfl, -, hb, hc, r0, r1, r2⟩ := (hl.below hBel).cells hkn
      have hcm := hmv (x, y, z) (List.mem_of_getElem? hc)
      have hmk := hat k _ hc
      obtain ⟨x', y', z', hxyz⟩ : ∃ x' y' z', mv (x, y, z) = (x', y', z') := ⟨_, _, _, rfl⟩
      rw [hxyz] at hcm hmk
      dsimp only at hcm
      have hBa := hBel.alloc (Nat.le_of_lt hlt) (.cells #[.int .i64 x, .int .i64 y, .int .i64 z] 34)
      have hcall := hcm _ hBa
      have hi0 : (0 : Int) ≤ k := by omega
      have hi1 : (k : Int) < l.length := by omega
      have hFa := hF.below ((Below.refl wr.heap.size wr).alloc (Nat.le_refl _) (.cells #[.int .i64 x, .int .i64 y, .int .i64 z] 34)) hlt
      have hlt2 : w.heap.size < (wr.alloc (.cells #[.int .i64 x, .int .i64 y, .int .i64 z] 34)).heap.size := by simp; omega
      clear hB1 hF1 hl hr h0 hmv hat hc hcm hxyz hml hF hBel
      go_wp2_with (go_at_call 36; refine hcall.mono ?_; rintro e w2 ⟨rfl, hB2⟩; have hF2 := hFa.below hB2 hlt2; have fz := hF2.fz; obtain ⟨v0, o0⟩ := hF2.old (j := k * 3) (by omega); obtain ⟨v1, o1⟩ := hF2.old (j := k * 3 + 1) (by omega); obtain ⟨v2, o2⟩ := hF2.old (j := k * 3 + 2) (by omega))
      have hsz := hB2.size
      refine ⟨⟨k + 1, hkn, rfl, hF2.put3 hkn hmk, by simp [World.setCell]; omega, below3' (hBa.trans (hB2.mono (Nat.le_of_lt hlt2))) k _ _ _⟩, ?_⟩
      simp [intOf]; omega
    · clear hl hF1 hB1 hmv hat
      rw [List.take_of_length_le (by rw [hml]; exact Nat.le_refl _)] at hF
      have hrow := hF.row
      have hce := checkEachG m (.slice (some ⟨w.heap.size, 0, none⟩) m.length m.length) wr (Sl.row hrow hlt) (by rw [hml]; unfold maxLen; omega)
      rw [hml, hr] at hce
      have hne : (r != 0) = true := by rw [bne_iff_ne]; exact h0
      clear hr hml hrow hF h0
      go_wp2_with (go_at_call 47; refine hce.mono ?_; rintro e w3 ⟨rfl, hB3⟩)
      go_ret2
      exact ⟨rfl, hBel.trans (hB3.mono (Nat.le_of_lt hlt))⟩
end Go.Proofs
end
