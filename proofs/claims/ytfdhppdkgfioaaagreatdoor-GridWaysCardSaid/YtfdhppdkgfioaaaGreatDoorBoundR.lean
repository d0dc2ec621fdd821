import Derived.Test.YtfdhppdkgfioaaaGreatDoorInsP
import Derived.Test.YtfdhppdkgfioaaaGreatDoorMoved
import Derived.Deep.RegionLaw
import Derived.Deep.RegionHeld3
section
/- What it means that a list has no error. -/
namespace Go.Proofs
open Go.RowKit
set_option maxHeartbeats 8000000
set_option maxRecDepth 1000000
theorem wrapL {n : Int} (h : -1000000000000000 ≤ n ∧ n ≤ 1000000000000000) : IntKind.i64.wrap n = n := by simp [IntKind.wrap, IntKind.bits, IntKind.signed]; omega
theorem chkFrom_zero : ∀ (l : List Cel) (p : Option Cel), chkFrom p l = 0 → (∀ c ∈ l, badC c = false) ∧ (∀ q, p = some q → ∀ c ∈ l, ltC q c = true) ∧ Up l
  | [], p, _ => ⟨fun c h => (nomatch h), fun q _ c h => (nomatch h), List.Pairwise.nil⟩
  | c :: l, p, h => by
    unfold chkFrom at h
    split at h
    · cases h
    · split at h
      · cases h
      · rename_i h1 h2
        obtain ⟨i1, i2, i3⟩ := chkFrom_zero l (some c) h
        have hb : badC c = false := by simpa using h1
        have hc := i2 c rfl
        refine ⟨fun x hx => ?_, fun q hq x hx => ?_, List.pairwise_cons.2 ⟨hc, i3⟩⟩
        · rcases List.mem_cons.1 hx with rfl | hx
          · exact hb
          · exact i1 x hx
        · subst hq
          have hqc : ltC q c = true := by
            cases e : ltC q c with
            | true => rfl
            | false => exact absurd (by rw [Option.any_some, e]; rfl) h2
          rcases List.mem_cons.1 hx with rfl | hx
          · exact hqc
          · exact ltC_tr hqc (hc x hx)
theorem chkFrom_of : ∀ (l : List Cel) (p : Option Cel), (∀ c ∈ l, badC c = false) → (∀ q, p = some q → ∀ c ∈ l, ltC q c = true) → Up l → chkFrom p l = 0
  | [], _, _, _, _ => rfl
  | c :: l, p, h1, h2, h3 => by
    obtain ⟨hc, h4⟩ := List.pairwise_cons.1 h3
    have hb := h1 c (List.mem_cons_self ..)
    unfold chkFrom
    rw [hb, if_neg (by simp)]
    have ha : p.any (fun q => !ltC q c) = false := by
      cases p with
      | none => rfl
      | some q => rw [Option.any_some, h2 q rfl c (List.mem_cons_self ..)]; rfl
    rw [ha, if_neg (by simp)]
    exact chkFrom_of l (some c) (fun x hx => h1 x (List.mem_cons_of_mem _ hx)) (fun q hq x hx => by obtain rfl := Option.some.inj hq; exact hc x hx) h4
theorem chk_up {l : List Cel} (h : chkI l = 0) : l.length ≤ 4096 ∧ True ∧ Up l := by
  unfold chkI at h
  split at h
  · cases h
  · exact ⟨by omega, trivial, (chkFrom_zero l none h).2.2⟩
end Go.Proofs
end

section
/- The reference's Bound. -/
namespace Go.Proofs
open Go.RowKit
set_option maxHeartbeats 8000000
set_option maxRecDepth 1000000
def bndS (b : Cel × Cel) (c : Cel) : Cel × Cel := ((min b.1.1 c.1, min b.1.2.1 c.2.1, min b.1.2.2 c.2.2), (max b.2.1 c.1, max b.2.2.1 c.2.1, max b.2.2.2 c.2.2))
def bndK (h : Cel) (l : List Cel) (k : Nat) : Cel × Cel := (l.take k).foldl bndS (h, h)
theorem bndK_succ {h : Cel} {l : List Cel} {k : Nat} {c : Cel} (hc : l[k]? = some c) : bndK h l (k + 1) = bndS (bndK h l k) c := by
  obtain ⟨h1, h2⟩ := List.getElem?_eq_some_iff.1 hc
  unfold bndK
  rw [List.take_succ_eq_append_getElem h1, h2, List.foldl_append]
  rfl
theorem bndK_one {h : Cel} {l : List Cel} (hh : l[0]? = some h) : bndK h l 1 = (h, h) := by
  rw [bndK_succ hh]
  unfold bndK bndS
  simp
def boxV (b : Cel × Cel) : Value := .agg #[.int .i64 b.1.1, .int .i64 b.1.2.1, .int .i64 b.1.2.2, .int .i64 b.2.1, .int .i64 b.2.2.1, .int .i64 b.2.2.2]
theorem refBound_ok (l : List Cel) (h : Cel) (v : Value) (w : World) (hl : Sl w v l) (hh : l[0]? = some h) (hn : l.length ≤ 1000000) :
    Calls Tryz.prog 119 #[v] w fun e w' => e = .returned (boxV (bndK h l l.length)) ∧ Below w.heap.size w w' := by
  rcases hl with ⟨rfl, rfl⟩ | ⟨a, cap, rfl, hl⟩
  · simp at hh
  · have hpos : 0 < l.length := (List.getElem?_eq_some_iff.1 hh).1
    obtain ⟨b, o, x, y, z, rfl, hb, hc, r0, r1, r2⟩ := Sl.at_ hl hpos
    obtain rfl : h = (x, y, z) := by rw [hh] at hc; exact Option.some.inj hc
    have hrow : RowAt w b o l := (hl (by intro e; subst e; simp at hpos)).2.2
    clear hl
    have hn0 : (0 : Int) < l.length := by omega
    have hn1 : (0 : Int) ≤ 0 := Int.le_refl _
    simp only [Nat.zero_mul, Nat.add_zero] at r0 r1 r2
    go_enter Tryz.func119, Tryz.ntmps119
    go_wp2
    obtain ⟨W, hW⟩ : ∃ W, W = w.alloc (.cells #[.int .i64 0, .int .i64 0, .int .i64 0, .int .i64 0, .int .i64 0, .int .i64 0] 55) := ⟨_, rfl⟩
    have hBW : Below w.heap.size w W := by subst hW; exact (Below.refl _ _).alloc (Nat.le_refl _) _
    have hs : w.heap.size < W.heap.size := by subst hW; simp
    have hZ0 : W.heap[w.heap.size]? = some (.cells #[.int .i64 0, .int .i64 0, .int .i64 0, .int .i64 0, .int .i64 0, .int .i64 0] 55 (0, 0)) := by subst hW; exact heap_alloc_new w _
    have R0 : W.cell? ⟨b, o, none⟩ = some (.int .i64 x) := (hBW.cell (p := ⟨b, o, none⟩) hb).trans r0
    have R1 : W.cell? ⟨b, o + 1, none⟩ = some (.int .i64 y) := (hBW.cell (p := ⟨b, o + 1, none⟩) hb).trans r1
    have R2 : W.cell? ⟨b, o + 2, none⟩ = some (.int .i64 z) := (hBW.cell (p := ⟨b, o + 2, none⟩) hb).trans r2
    have hbW : b < W.heap.size := Nat.lt_trans hb hs
    rw [← hW]
    clear hW r0 r1 r2
    go_region_held3 (fun w' => w'.cell? ⟨b, o, none⟩ = some (.int .i64 x) ∧ w'.cell? ⟨b, o + 1, none⟩ = some (.int .i64 y) ∧ w'.cell? ⟨b, o + 2, none⟩ = some (.int .i64 z)) (first | exact ⟨R0, R1, R2⟩ | go_keep) (fail)
    rename_i hHeld
    clear hHeld
    obtain ⟨V, hV⟩ : ∃ V, V = (W.alloc (.cells #[.int .i64 x, .int .i64 y, .int .i64 z, .int .i64 x, .int .i64 y, .int .i64 z] 55)).drew := ⟨_, rfl⟩
    have hBV : Below w.heap.size w V := by subst hV; exact (hBW.alloc hBW.size _).drew
    have hG : V.heap[W.heap.size]? = some (.cells #[.int .i64 x, .int .i64 y, .int .i64 z, .int .i64 x, .int .i64 y, .int .i64 z] 55 (0, 0)) := by subst hV; exact heap_alloc_new W _
    rw [← hV]
    have hZV : V.heap[w.heap.size]? = some (.cells #[.int .i64 0, .int .i64 0, .int .i64 0, .int .i64 0, .int .i64 0, .int .i64 0] 55 (0, 0)) := by subst hV; exact (Below.heap_alloc W _ _ hs).trans hZ0
    have hGw : w.heap.size ≤ W.heap.size := Nat.le_of_lt hs
    have hGn : w.heap.size ≠ W.heap.size := Nat.ne_of_lt hs
    clear hV R0 R1 R2 hs hBW hbW hZ0
    generalize W.heap.size = G at hG hGw hGn ⊢
    go_wp2
    go_loopw [4] (fun i wr => ∃ (k : Nat) (B : Cel × Cel), 1 ≤ k ∧ k ≤ l.length ∧ i = .int .i64 k ∧ B = bndK (x, y, z) l k ∧ wr.heap[G]? = some (.cells #[.int .i64 B.1.1, .int .i64 B.1.2.1, .int .i64 B.1.2.2, .int .i64 B.2.1, .int .i64 B.2.2.1, .int .i64 B.2.2.2] 55 (0, 0)) ∧ wr.heap[w.heap.size]? = some (.cells #[.int .i64 0, .int .i64 0, .int .i64 0, .int .i64 0, .int .i64 0, .int .i64 0] 55 (0, 0)) ∧ Below w.heap.size w wr) (fun i _ => l.length - (intOf i).toNat)
    case atStart => exact ⟨1, ((x, y, z), (x, y, z)), Nat.le_refl _, hpos, rfl, (bndK_one hc).symm, hG, hZV, hBV⟩
    case round =>
      obtain ⟨k, ⟨⟨lx, ly, lz⟩, ⟨ux, uy, uz⟩⟩, hk1, hk, rfl, hBk, hg, hz, hBel⟩ := hrel
      dsimp only at hg
      rename World => w1
      rcases Nat.lt_or_eq_of_le hk with hkn | rfl
      · obtain ⟨x', y', z', hc'⟩ : ∃ x' y' z', l[k]? = some (x', y', z') := ⟨_, _, _, List.getElem?_eq_getElem hkn⟩
        obtain ⟨r0, r1, r2⟩ := hrow k _ hc'
        have hst := bndK_succ (h := (x, y, z)) hc'
        rw [← hBk] at hst
        have R0 := (hBel.cell (p := ⟨b, _, none⟩) hb).trans r0
        have R1 := (hBel.cell (p := ⟨b, _, none⟩) hb).trans r1
        have R2 := (hBel.cell (p := ⟨b, _, none⟩) hb).trans r2
        have hk0 : (0 : Int) ≤ k := by omega
        have hkl : (k : Int) < l.length := by omega
        have cl := fun j => cell_of_row w1 G j _ _ _ hg
        have c0 := cl 0
        have c1 := cl 1
        have c2 := cl 2
        have c3 := cl 3
        have c4 := cl 4
        have c5 := cl 5
        have fz := fun j => frozen_of_row w1 G j _ _ hg
        simp at c0 c1 c2 c3 c4 c5
        have hne : b ≠ G := by omega
        have Hst := Lib.hid hst
        dsimp only at R0 R1 R2 r0 r1 r2
        clear hrow hc hh hG hBV cl hst hBk
        go_upto_region 5 with fail
        go_still_tail 29, (by kernel_rfl)
        change wpList _ _ _ _ _ w1.drew
        have hg2 : w1.drew.heap[G]? = _ := hg
        have hz2 : w1.drew.heap[w.heap.size]? = _ := hz
        have hz3 := (heap_setCell_other _ ⟨G, 2, none⟩ w.heap.size (.int .i64 (min lz z')) hGn).trans ((heap_setCell_other _ ⟨G, 1, none⟩ w.heap.size (.int .i64 (min ly y')) hGn).trans ((heap_setCell_other _ ⟨G, 0, none⟩ w.heap.size (.int .i64 (min lx x')) hGn).trans hz2))
        have hB2 : Below w.heap.size w w1.drew := hBel.drew
        have hg3 := heap_setCell_same _ G 2 _ _ (.int .i64 (min lz z')) (heap_setCell_same _ G 1 _ _ (.int .i64 (min ly y')) (heap_setCell_same _ G 0 _ _ (.int .i64 (min lx x')) hg2))
        have hB3 := ((hB2.setCell (p := ⟨G, 0, none⟩) hGw (.int .i64 (min lx x'))).setCell (p := ⟨G, 1, none⟩) hGw (.int .i64 (min ly y'))).setCell (p := ⟨G, 2, none⟩) hGw (.int .i64 (min lz z'))
        have fz2 : ∀ j, w1.drew.frozen? ⟨G, j, none⟩ = false := fz
        have d0 : w1.drew.cell? ⟨G, 0, none⟩ = _ := c0
        have d1 : w1.drew.cell? ⟨G, 1, none⟩ = _ := c1
        have d2 : w1.drew.cell? ⟨G, 2, none⟩ = _ := c2
        have R0' := (hB3.cell (p := ⟨b, _, none⟩) hb).trans r0
        have R1' := (hB3.cell (p := ⟨b, _, none⟩) hb).trans r1
        have R2' := (hB3.cell (p := ⟨b, _, none⟩) hb).trans r2
        simp at hg3
        clear hg c0 c1 c2 c3 c4 c5 R0 R1 R2 fz hBel r0 r1 r2 hg2 hB2 hz hz2
        generalize w1.drew = w2 at fz2 d0 d1 d2 hg3 hB3 hz3 R0' R1' R2' ⊢
        go_upto_region 6 with fail
        generalize ((w2.setCell ⟨G, 0, none⟩ (.int .i64 (min lx x'))).setCell ⟨G, 1, none⟩ (.int .i64 (min ly y'))).setCell ⟨G, 2, none⟩ (.int .i64 (min lz z')) = w3 at hg3 hB3 hz3 R0' R1' R2' ⊢
        clear fz2 d0 d1 d2
        have cl := fun j => cell_of_row w3 G j _ _ _ hg3
        have c3 := cl 3
        have c4 := cl 4
        have c5 := cl 5
        have fz := fun j => frozen_of_row w3 G j _ _ hg3
        simp at c3 c4 c5
        clear cl
        go_still_tail 29, (by kernel_rfl)
        change wpList _ _ _ _ _ w3.drew
        have hg2 : w3.drew.heap[G]? = _ := hg3
        have hz2 : w3.drew.heap[w.heap.size]? = _ := hz3
        have hz4 := (heap_setCell_other _ ⟨G, 5, none⟩ w.heap.size (.int .i64 (max uz z')) hGn).trans ((heap_setCell_other _ ⟨G, 4, none⟩ w.heap.size (.int .i64 (max uy y')) hGn).trans ((heap_setCell_other _ ⟨G, 3, none⟩ w.heap.size (.int .i64 (max ux x')) hGn).trans hz2))
        have hB2 : Below w.heap.size w w3.drew := hB3.drew
        have hg4 := heap_setCell_same _ G 5 _ _ (.int .i64 (max uz z')) (heap_setCell_same _ G 4 _ _ (.int .i64 (max uy y')) (heap_setCell_same _ G 3 _ _ (.int .i64 (max ux x')) hg2))
        have hB4 := ((hB2.setCell (p := ⟨G, 3, none⟩) hGw (.int .i64 (max ux x'))).setCell (p := ⟨G, 4, none⟩) hGw (.int .i64 (max uy y'))).setCell (p := ⟨G, 5, none⟩) hGw (.int .i64 (max uz z'))
        have fz2 : ∀ j, w3.drew.frozen? ⟨G, j, none⟩ = false := fz
        have d3 : w3.drew.cell? ⟨G, 3, none⟩ = _ := c3
        have d4 : w3.drew.cell? ⟨G, 4, none⟩ = _ := c4
        have d5 : w3.drew.cell? ⟨G, 5, none⟩ = _ := c5
        simp at hg4
        clear hg3 c3 c4 c5 R0' R1' R2' fz hB3 hg2 hB2 hz2 hz3
        generalize w3.drew = w4 at fz2 d3 d4 d5 hg4 hB4 hz4 ⊢
        go_wp2
        exact ⟨⟨k + 1, ((min lx x', min ly y', min lz z'), (max ux x', max uy y', max uz z')), by omega, hkn, rfl, Hst.out.symm, hg4, hz4, hB4⟩, by simp [intOf]; omega⟩
      · have cl := fun j => cell_of_row w1 G j _ _ _ hg
        have c0 := cl 0
        have c1 := cl 1
        have c2 := cl 2
        have c3 := cl 3
        have c4 := cl 4
        have c5 := cl 5
        simp at c0 c1 c2 c3 c4 c5
        have zl := fun j => cell_of_row w1 w.heap.size j _ _ _ hz
        have z0 := zl 0
        have z1 := zl 1
        have z2 := zl 2
        have z3 := zl 3
        have z4 := zl 4
        have z5 := zl 5
        simp at z0 z1 z2 z3 z4 z5
        have fz := fun j => frozen_of_row w1 w.heap.size j _ _ hz
        have hz' := heap_setCell_same _ w.heap.size 5 _ _ (.int .i64 uz) (heap_setCell_same _ w.heap.size 4 _ _ (.int .i64 uy) (heap_setCell_same _ w.heap.size 3 _ _ (.int .i64 ux) (heap_setCell_same _ w.heap.size 2 _ _ (.int .i64 lz) (heap_setCell_same _ w.heap.size 1 _ _ (.int .i64 ly) (heap_setCell_same _ w.heap.size 0 _ _ (.int .i64 lx) hz)))))
        simp at hz'
        have hle := Nat.le_refl w.heap.size
        have hB' := (((((hBel.setCell (p := ⟨w.heap.size, 0, none⟩) hle (.int .i64 lx)).setCell (p := ⟨w.heap.size, 1, none⟩) hle (.int .i64 ly)).setCell (p := ⟨w.heap.size, 2, none⟩) hle (.int .i64 lz)).setCell (p := ⟨w.heap.size, 3, none⟩) hle (.int .i64 ux)).setCell (p := ⟨w.heap.size, 4, none⟩) hle (.int .i64 uy)).setCell (p := ⟨w.heap.size, 5, none⟩) hle (.int .i64 uz)
        have HBk := Lib.hid hBk
        have Hz' := Lib.hid hz'
        clear hrow hc hh hG hBV cl hBk zl hz hz' hg
        go_wp2
        have hfin := HBk.out
        refine bodyPost_ret (results_cell_row rfl _ _ _ 55 #[.int .i64 lx, .int .i64 ly, .int .i64 lz, .int .i64 ux, .int .i64 uy, .int .i64 uz] (0, 0) _ rfl Hz'.out Tryz.underlying55 rfl (by kernel_rfl)) rfl ?_
        refine ⟨?_, hB'⟩
        rw [← hfin]
        rfl
end Go.Proofs
end
