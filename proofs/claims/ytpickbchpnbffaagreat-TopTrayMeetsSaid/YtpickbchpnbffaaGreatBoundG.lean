import Derived.Test.YtpickbchpnbffaaGreatTurn
import Derived.Test.YtpickbchpnbffaaGreatHas
import Derived.Test.YtpickbchpnbffaaGreatDistP
import Derived.Deep.RegionHeld3
section
/- moved and Turn of any set's slice (nil and empty ones too). -/
namespace Go.Proofs
open Go.Shelf Go.RowKit Go.Lib Go.Sort
set_option maxHeartbeats 8000000
set_option maxRecDepth 1000000
theorem movedG_turn (l : List Cel) (v : Value) (w : World) (hl : Sl w v l) (hn : l.length ≤ 4096) (p q : Nat) (mv : Cel → Cel)
    (hmv : ∀ c ∈ l, ∀ W, Below w.heap.size w W → Calls Tryz.prog 51 #[.agg #[.int .i64 c.1, .int .i64 c.2.1, .int .i64 c.2.2], .pointer (some ⟨p, 0, none⟩), .pointer (some ⟨q, 0, none⟩)] W fun e W' => e = .returned (.agg #[.int .i64 (mv c).1, .int .i64 (mv c).2.1, .int .i64 (mv c).2.2]) ∧ Below W.heap.size W W')
    (hfit : ∀ c ∈ l.map mv, vecI c 1000 = 0) (hnd : (l.map mv).Nodup) :
    Calls Tryz.prog 35 #[v, .func (.func 51) #[] #[.pointer (some ⟨p, 0, none⟩), .pointer (some ⟨q, 0, none⟩)]] w fun e w' => ∃ B, e = .returned (.tuple #[.slice (some ⟨B, 0, none⟩) l.length l.length, .int .i64 0]) ∧ w.heap.size ≤ B ∧ Filled w' B l.length 34 (sortC (l.map mv)) ∧ Below w.heap.size w w' := by
  obtain ⟨j0, hj, hy0, hy1, hy2⟩ := info_parts (P := Tryz.prog) (e := 34) (z := .agg #[.int .i64 0, .int .i64 0, .int .i64 0]) (size := 3) (bytes := 24) (by kernel_rfl)
  have hml : (l.map mv).length = l.length := List.length_map _
  obtain ⟨m, hmm⟩ : ∃ m, m = l.map mv := ⟨_, rfl⟩
  have hat : ∀ (k : Nat) (c : Cel), l[k]? = some c → m[k]? = some (mv c) := fun k c h => by rw [hmm, List.getElem?_map, h]; rfl
  rw [← hmm] at hfit hnd hml ⊢
  clear hmm
  obtain ⟨A, cap, rfl⟩ := hl.form
  go_enter Tryz.func35, Tryz.ntmps35
  go_wp2_with (at_make; refine wpList_make_full _ rfl _ _ 22 rfl w.heap.size 34 j0 _ 3 Tryz.underlying22 hj hy0 hy1 .i64 .i64 _ _ l.length rfl rfl rfl rfl ?c1 ?c2 ?c3 ?_)
  case c1 => rw [hy2]; omega
  case c2 => unfold maxLen; omega
  case c3 => exact Nat.le_refl _
  intro w1 hown hgrow
  have hF1 := made_filled rfl hown m
  have hB1 : Below w.heap.size w w1 := (Below.refl _ _).grown hgrow (Nat.le_refl _) (fun k hk => by cases hk)
  clear hown hgrow
  go_wp2
  go_loopw [15] (fun i wr => ∃ k : Nat, k ≤ l.length ∧ i = .int .i64 k ∧ Filled wr w.heap.size l.length 34 (m.take k) ∧ w.heap.size < wr.heap.size ∧ Below w.heap.size w wr) (fun i _ => l.length - (intOf i).toNat)
  case atStart => exact ⟨0, Nat.zero_le _, rfl, hF1.1, hF1.2, hB1⟩
  case round =>
    obtain ⟨k, hk, rfl, hF, hlt, hBel⟩ := hrel
    rcases Nat.lt_or_eq_of_le hk with hkn | rfl
    · obtain ⟨b, o, x, y, z, rfl, -, hb, hc, r0, r1, r2⟩ := (hl.below hBel).cells hkn
      have hcm := hmv (x, y, z) (List.mem_of_getElem? hc)
      have hmk := hat k _ hc
      obtain ⟨x', y', z', hxyz⟩ : ∃ x' y' z', mv (x, y, z) = (x', y', z') := ⟨_, _, _, rfl⟩
      rw [hxyz] at hcm hmk
      dsimp only at hcm
      have hBa := hBel.alloc (Nat.le_of_lt hlt) (.cells #[.int .i64 x, .int .i64 y, .int .i64 z] 34)
      have hcall := hcm _ hBa
      have hi0 : (0 : Int) ≤ k := by omega
      have hi1 : (k : Int) < l.length := by omega
      have hFa := hF.below ((Below.refl wr.heap.size wr).alloc (Nat.le_refl _) (.cells #[.int .i64 x, .int .i64 y, .int .i64 z] 34)) hlt
      have hlt2 : w.heap.size < (wr.alloc (.cells #[.int .i64 x, .int .i64 y, .int .i64 z] 34)).heap.size := by simp; omega
      clear hB1 hF1 hl hfit hnd hmv hat hc hcm hxyz hml hF hBel
      go_wp2_with (go_at_call 51; refine hcall.mono ?_; rintro e w2 ⟨rfl, hB2⟩; have hF2 := hFa.below hB2 hlt2; have fz := hF2.fz; obtain ⟨v0, o0⟩ := hF2.old (j := k * 3) (by omega); obtain ⟨v1, o1⟩ := hF2.old (j := k * 3 + 1) (by omega); obtain ⟨v2, o2⟩ := hF2.old (j := k * 3 + 2) (by omega))
      have hsz := hB2.size
      refine ⟨⟨k + 1, hkn, rfl, hF2.put3 hkn hmk, by simp [World.setCell]; omega, below3' (hBa.trans (hB2.mono (Nat.le_of_lt hlt2))) k _ _ _⟩, ?_⟩
      simp [intOf]; omega
    · clear hl hF1 hB1 hmv hat
      rw [List.take_of_length_le (by rw [hml]; exact Nat.le_refl _)] at hF
      have hrow := hF.row
      have hce := checkEach_ok m w.heap.size 0 m.length wr hrow hlt (by rw [hml]; exact hn) hfit
      have hso := fun W (hr : RowAt W w.heap.size 0 m) (hb : w.heap.size < W.heap.size) => sorted_ok m w.heap.size 0 m.length W hr hb (by rw [hml]; exact hn) hnd
      rw [hml] at hce hso
      have hstep : ∀ W, Below wr.heap.size wr W → RowAt W w.heap.size 0 m ∧ w.heap.size < W.heap.size := fun W hW => ⟨(hF.below hW hlt).row, Nat.lt_of_lt_of_le hlt hW.size⟩
      clear hfit hnd hml hrow hF
      go_wp2_with (first
        | (go_at_call 47; refine hce.mono ?_; rintro e w3 ⟨rfl, hB3⟩)
        | (go_at_call 74; refine (hso w3 (hstep w3 hB3).1 (hstep w3 hB3).2).mono ?_; rintro e w4 ⟨B, rfl, hB, hFB, hB4⟩))
      go_ret2
      have h3 := hB3.size
      exact ⟨B, rfl, by omega, hFB, (hBel.trans (hB3.mono (Nat.le_of_lt hlt))).trans (hB4.mono (by omega))⟩

end Go.Proofs
end

section
/- grid.bound and grid.Bound. -/
namespace Go.Proofs
open Go.RowKit
set_option maxHeartbeats 8000000
set_option maxRecDepth 1000000
theorem bound_ok (l : List Cel) (h : Cel) (v : Value) (w : World) (hl : Sl w v l) (hh : l[0]? = some h) (hn : l.length ≤ 1000000) :
    Calls Tryz.prog 100 #[v] w fun e w' => e = .returned (boxV (bndK h l l.length)) ∧ Below w.heap.size w w' := by
  have hpos : 0 < l.length := (List.getElem?_eq_some_iff.1 hh).1
  obtain ⟨A, cap, rfl⟩ := hl.form
  obtain ⟨b, o, x, y, z, rfl, -, hb, hc, r0, r1, r2⟩ := hl.cells hpos
  obtain rfl : h = (x, y, z) := by rw [hh] at hc; exact Option.some.inj hc
  have hn0 : (0 : Int) < l.length := by omega
  have hn1 : (0 : Int) ≤ 0 := Int.le_refl _
  simp only [Nat.zero_mul, Nat.add_zero] at r0 r1 r2
  have hl' := hl
  clear hl
  have hl := Lib.hid hl'
  clear hl'
  go_enter Tryz.func100, Tryz.ntmps100
  go_wp2
  obtain ⟨W, hW⟩ : ∃ W, W = w.alloc (.cells #[.int .i64 0, .int .i64 0, .int .i64 0, .int .i64 0, .int .i64 0, .int .i64 0] 125) := ⟨_, rfl⟩
  have hBW : Below w.heap.size w W := by subst hW; exact (Below.refl _ _).alloc (Nat.le_refl _) _
  have hs : w.heap.size < W.heap.size := by subst hW; simp
  have hZ0 : W.heap[w.heap.size]? = some (.cells #[.int .i64 0, .int .i64 0, .int .i64 0, .int .i64 0, .int .i64 0, .int .i64 0] 125 (0, 0)) := by subst hW; exact heap_alloc_new w _
  have R0 : W.cell? ⟨b, o, none⟩ = some (.int .i64 x) := (hBW.cell (p := ⟨b, o, none⟩) hb).trans r0
  have R1 : W.cell? ⟨b, o + 1, none⟩ = some (.int .i64 y) := (hBW.cell (p := ⟨b, o + 1, none⟩) hb).trans r1
  have R2 : W.cell? ⟨b, o + 2, none⟩ = some (.int .i64 z) := (hBW.cell (p := ⟨b, o + 2, none⟩) hb).trans r2
  have hbW : b < W.heap.size := Nat.lt_trans hb hs
  rw [← hW]
  clear hW r0 r1 r2
  go_region_held3 (fun w' => w'.cell? ⟨b, o, none⟩ = some (.int .i64 x) ∧ w'.cell? ⟨b, o + 1, none⟩ = some (.int .i64 y) ∧ w'.cell? ⟨b, o + 2, none⟩ = some (.int .i64 z)) (first | exact ⟨R0, R1, R2⟩ | go_keep) (fail)
  rename_i hHeld
  clear hHeld
  obtain ⟨V, hV⟩ : ∃ V, V = (W.alloc (.cells #[.int .i64 x, .int .i64 y, .int .i64 z, .int .i64 x, .int .i64 y, .int .i64 z] 125)).drew := ⟨_, rfl⟩
  have hBV : Below w.heap.size w V := by subst hV; exact (hBW.alloc hBW.size _).drew
  have hG : V.heap[W.heap.size]? = some (.cells #[.int .i64 x, .int .i64 y, .int .i64 z, .int .i64 x, .int .i64 y, .int .i64 z] 125 (0, 0)) := by subst hV; exact heap_alloc_new W _
  rw [← hV]
  have hZV : V.heap[w.heap.size]? = some (.cells #[.int .i64 0, .int .i64 0, .int .i64 0, .int .i64 0, .int .i64 0, .int .i64 0] 125 (0, 0)) := by subst hV; exact (Below.heap_alloc W _ _ hs).trans hZ0
  have hGw : w.heap.size ≤ W.heap.size := Nat.le_of_lt hs
  have hGn : w.heap.size ≠ W.heap.size := Nat.ne_of_lt hs
  have hGl : W.heap.size < V.heap.size := by subst hV; simp
  clear hV R0 R1 R2 hs hBW hbW hZ0
  generalize W.heap.size = G at hG hGw hGn hGl ⊢
  go_wp2
  go_loopw [15] (fun i wr => ∃ (k : Nat) (B : Cel × Cel), k ≤ l.length ∧ i = .int .i64 k ∧ B = bndK (x, y, z) l k ∧ wr.heap[G]? = some (.cells #[.int .i64 B.1.1, .int .i64 B.1.2.1, .int .i64 B.1.2.2, .int .i64 B.2.1, .int .i64 B.2.2.1, .int .i64 B.2.2.2] 125 (0, 0)) ∧ wr.heap[w.heap.size]? = some (.cells #[.int .i64 0, .int .i64 0, .int .i64 0, .int .i64 0, .int .i64 0, .int .i64 0] 125 (0, 0)) ∧ Below w.heap.size w wr ∧ G < wr.heap.size) (fun i _ => l.length - (intOf i).toNat)
  case atStart => exact ⟨0, ((x, y, z), (x, y, z)), Nat.zero_le _, rfl, rfl, hG, hZV, hBV, hGl⟩
  case round =>
    obtain ⟨k, ⟨⟨lx, ly, lz⟩, ⟨ux, uy, uz⟩⟩, hk, rfl, hBk, hg, hz, hBel, hGl1⟩ := hrel
    dsimp only at hg
    rename World => w1
    rcases Nat.lt_or_eq_of_le hk with hkn | rfl
    · obtain ⟨b', o', x', y', z', e', -, hb', hc', r0, r1, r2⟩ := hl.out.cells hkn
      obtain ⟨rfl, rfl⟩ : b' = b ∧ o' = o := by injection e' with e'; injection e' with e1 e2; exact ⟨e1.symm, e2.symm⟩
      have hst := bndK_succ (h := (x, y, z)) hc'
      rw [← hBk] at hst
      have R0 := (hBel.cell (p := ⟨b', _, none⟩) hb).trans r0
      have R1 := (hBel.cell (p := ⟨b', _, none⟩) hb).trans r1
      have R2 := (hBel.cell (p := ⟨b', _, none⟩) hb).trans r2
      have hk0 : (0 : Int) ≤ k := by omega
      have hkl : (k : Int) < l.length := by omega
      have Hst := Lib.hid hst
      obtain ⟨w2, hw2⟩ : ∃ w2, w2 = w1.alloc (.cells #[.int .i64 x', .int .i64 y', .int .i64 z'] 34) := ⟨_, rfl⟩
      have hB12 : Below w1.heap.size w1 w2 := by subst hw2; exact (Below.refl _ _).alloc (Nat.le_refl _) _
      have d0 : w2.cell? ⟨w1.heap.size, 0, none⟩ = some (.int .i64 x') := by subst hw2; go_simp
      have d1 : w2.cell? ⟨w1.heap.size, 1, none⟩ = some (.int .i64 y') := by subst hw2; go_simp
      have d2 : w2.cell? ⟨w1.heap.size, 2, none⟩ = some (.int .i64 z') := by subst hw2; go_simp
      have hg2 : w2.heap[G]? = _ := (hB12.block G hGl1).trans hg
      have hz2 : w2.heap[w.heap.size]? = _ := (hB12.block _ (by have := hBel.size; omega)).trans hz
      have hB2 := hBel.trans (hB12.mono hBel.size)
      have hGne : G ≠ w1.heap.size := by omega
      have hG2 : G < w2.heap.size := Nat.lt_of_lt_of_le hGl1 hB12.size
      have cl := fun j => cell_of_row w2 G j _ _ _ hg2
      have c0 := cl 0
      have c1 := cl 1
      have c2 := cl 2
      have c3 := cl 3
      have c4 := cl 4
      have c5 := cl 5
      have fz := fun j => frozen_of_row w2 G j _ _ hg2
      simp at c0 c1 c2 c3 c4 c5
      clear hc hh hG hZV hBV r0 r1 r2 e' cl hst hBk hg hz hB12 hBel hc' hb' hl
      go_upto_region 5 with fail
      rw [← hw2]
      clear hw2 R0 R1 R2
      have hg3 := heap_setCell_same _ G 2 _ _ (.int .i64 (min lz z')) (heap_setCell_same _ G 1 _ _ (.int .i64 (min ly y')) (heap_setCell_same _ G 0 _ _ (.int .i64 (min lx x')) hg2))
      have hz3 := (heap_setCell_other _ ⟨G, 2, none⟩ w.heap.size (.int .i64 (min lz z')) hGn).trans ((heap_setCell_other _ ⟨G, 1, none⟩ w.heap.size (.int .i64 (min ly y')) hGn).trans ((heap_setCell_other _ ⟨G, 0, none⟩ w.heap.size (.int .i64 (min lx x')) hGn).trans hz2))
      have hB3 := ((hB2.setCell (p := ⟨G, 0, none⟩) hGw (.int .i64 (min lx x'))).setCell (p := ⟨G, 1, none⟩) hGw (.int .i64 (min ly y'))).setCell (p := ⟨G, 2, none⟩) hGw (.int .i64 (min lz z'))
      have hG3 : G < (((w2.setCell ⟨G, 0, none⟩ (.int .i64 (min lx x'))).setCell ⟨G, 1, none⟩ (.int .i64 (min ly y'))).setCell ⟨G, 2, none⟩ (.int .i64 (min lz z'))).heap.size := by simpa [World.setCell] using hG2
      have e0 : (((w2.setCell ⟨G, 0, none⟩ (.int .i64 (min lx x'))).setCell ⟨G, 1, none⟩ (.int .i64 (min ly y'))).setCell ⟨G, 2, none⟩ (.int .i64 (min lz z'))).cell? ⟨w1.heap.size, 0, none⟩ = some (.int .i64 x') := by go_simp
      have e1 : (((w2.setCell ⟨G, 0, none⟩ (.int .i64 (min lx x'))).setCell ⟨G, 1, none⟩ (.int .i64 (min ly y'))).setCell ⟨G, 2, none⟩ (.int .i64 (min lz z'))).cell? ⟨w1.heap.size, 1, none⟩ = some (.int .i64 y') := by go_simp
      have e2 : (((w2.setCell ⟨G, 0, none⟩ (.int .i64 (min lx x'))).setCell ⟨G, 1, none⟩ (.int .i64 (min ly y'))).setCell ⟨G, 2, none⟩ (.int .i64 (min lz z'))).cell? ⟨w1.heap.size, 2, none⟩ = some (.int .i64 z') := by go_simp
      simp at hg3
      clear hg2 hz2 hB2
      go_upto_region 6 with fail
      generalize ((w2.setCell ⟨G, 0, none⟩ (.int .i64 (min lx x'))).setCell ⟨G, 1, none⟩ (.int .i64 (min ly y'))).setCell ⟨G, 2, none⟩ (.int .i64 (min lz z')) = w3 at hg3 hz3 hB3 hG3 e0 e1 e2 ⊢
      clear fz c0 c1 c2 c3 c4 c5 d0 d1 d2 hG2
      have cl := fun j => cell_of_row w3 G j _ _ _ hg3
      have c3 := cl 3
      have c4 := cl 4
      have c5 := cl 5
      have fz := fun j => frozen_of_row w3 G j _ _ hg3
      simp at c3 c4 c5
      clear cl
      have hg4 := heap_setCell_same _ G 5 _ _ (.int .i64 (max uz z')) (heap_setCell_same _ G 4 _ _ (.int .i64 (max uy y')) (heap_setCell_same _ G 3 _ _ (.int .i64 (max ux x')) hg3))
      have hz4 := (heap_setCell_other _ ⟨G, 5, none⟩ w.heap.size (.int .i64 (max uz z')) hGn).trans ((heap_setCell_other _ ⟨G, 4, none⟩ w.heap.size (.int .i64 (max uy y')) hGn).trans ((heap_setCell_other _ ⟨G, 3, none⟩ w.heap.size (.int .i64 (max ux x')) hGn).trans hz3))
      have hB4 := ((hB3.setCell (p := ⟨G, 3, none⟩) hGw (.int .i64 (max ux x'))).setCell (p := ⟨G, 4, none⟩) hGw (.int .i64 (max uy y'))).setCell (p := ⟨G, 5, none⟩) hGw (.int .i64 (max uz z'))
      simp at hg4
      have Hg4 := Lib.hid hg4
      have Hz4 := Lib.hid hz4
      clear hg3 hz3 hB3 hg4 hz4
      go_wp2
      exact ⟨⟨k + 1, ((min lx x', min ly y', min lz z'), (max ux x', max uy y', max uz z')), hkn, rfl, Hst.out.symm, Hg4.out, Hz4.out, hB4, by simpa [World.setCell] using hG3⟩, by simp [intOf]; omega⟩
    · have cl := fun j => cell_of_row w1 G j _ _ _ hg
      have c0 := cl 0
      have c1 := cl 1
      have c2 := cl 2
      have c3 := cl 3
      have c4 := cl 4
      have c5 := cl 5
      simp at c0 c1 c2 c3 c4 c5
      have zl := fun j => cell_of_row w1 w.heap.size j _ _ _ hz
      have z0 := zl 0
      have z1 := zl 1
      have z2 := zl 2
      have z3 := zl 3
      have z4 := zl 4
      have z5 := zl 5
      simp at z0 z1 z2 z3 z4 z5
      have fz := fun j => frozen_of_row w1 w.heap.size j _ _ hz
      have hz' := heap_setCell_same _ w.heap.size 5 _ _ (.int .i64 uz) (heap_setCell_same _ w.heap.size 4 _ _ (.int .i64 uy) (heap_setCell_same _ w.heap.size 3 _ _ (.int .i64 ux) (heap_setCell_same _ w.heap.size 2 _ _ (.int .i64 lz) (heap_setCell_same _ w.heap.size 1 _ _ (.int .i64 ly) (heap_setCell_same _ w.heap.size 0 _ _ (.int .i64 lx) hz)))))
      simp at hz'
      have hle := Nat.le_refl w.heap.size
      have hB' := (((((hBel.setCell (p := ⟨w.heap.size, 0, none⟩) hle (.int .i64 lx)).setCell (p := ⟨w.heap.size, 1, none⟩) hle (.int .i64 ly)).setCell (p := ⟨w.heap.size, 2, none⟩) hle (.int .i64 lz)).setCell (p := ⟨w.heap.size, 3, none⟩) hle (.int .i64 ux)).setCell (p := ⟨w.heap.size, 4, none⟩) hle (.int .i64 uy)).setCell (p := ⟨w.heap.size, 5, none⟩) hle (.int .i64 uz)
      have HBk := Lib.hid hBk
      have Hz' := Lib.hid hz'
      clear hl hc hh hG hZV hBV cl hBk zl hz hz' hg
      go_wp2
      have hfin := HBk.out
      refine bodyPost_ret (results_cell_row rfl _ _ _ 125 #[.int .i64 lx, .int .i64 ly, .int .i64 lz, .int .i64 ux, .int .i64 uy, .int .i64 uz] (0, 0) _ rfl Hz'.out Tryz.underlying125 rfl (by kernel_rfl)) rfl ?_
      refine ⟨?_, hB'⟩
      rw [← hfin]
      rfl
end Go.Proofs
end
