import Derived.Test.YtllameiilljelaaMapC
import Derived.Test.YtllameiilljelaaRefE
import Derived.Test.YtllameiilljelaaFewR
import Derived.Deep.RegionHeld3
section
/- setOf: a set of the cells of a list. -/
namespace Go.Proofs
open Go.RowKit
set_option maxHeartbeats 8000000
set_option maxRecDepth 1000000
def setL (l : List Cel) : List Cel := l.foldl (fun m c => addC c m) []
theorem fold_addC : ∀ (l m : List Cel), (∀ c, c ∈ l.foldl (fun m c => addC c m) m ↔ c ∈ l ∨ c ∈ m)
  | [], m, c => by simp
  | d :: l, m, c => by
    rw [List.foldl_cons, fold_addC l (addC d m) c, mem_addC, List.mem_cons]
    constructor
    · rintro (h | h | h)
      · exact .inl (.inr h)
      · exact .inl (.inl h)
      · exact .inr h
    · rintro ((h | h) | h)
      · exact .inr (.inl h)
      · exact .inl h
      · exact .inr (.inr h)
theorem mem_setL {l : List Cel} {c : Cel} : c ∈ setL l ↔ c ∈ l := by
  unfold setL
  rw [fold_addC]
  simp
theorem fold_nodup : ∀ (l m : List Cel), m.Nodup → (l.foldl (fun m c => addC c m) m).Nodup
  | [], _, h => h
  | d :: l, m, h => fold_nodup l (addC d m) (nodup_addC h)
theorem nodup_setL (l : List Cel) : (setL l).Nodup := fold_nodup l [] List.nodup_nil
theorem setL_take {l : List Cel} {k : Nat} {c : Cel} (hc : l[k]? = some c) : setL (l.take (k + 1)) = addC c (setL (l.take k)) := by
  unfold setL
  rw [List.take_add_one, hc]
  simp
theorem setL_len (l : List Cel) : (setL l).length ≤ l.length := nodup_len (nodup_setL l) fun _ h => mem_setL.1 h
theorem run_makeMap_some (t : TypeId) (n : Nat) (w : World) (ht : ∃ k e, Try.prog.underlying t = some (.map k e)) : (Instr.makeMap t (some (.int .i64 n))).run Try.prog w = .ok (.map (some w.heap.size)) (w.alloc (.map #[] 0)) := by
  obtain ⟨k, e, ht⟩ := ht
  simp [Instr.makeMap, run_underlying ht, asInt, Result.andThen]
  rfl
end Go.Proofs
end

section
/- grid.CheckCells, for any list. -/
namespace Go.Proofs
open Go.RowKit
set_option maxHeartbeats 4000000
set_option maxRecDepth 1000000
theorem vecI_bad (c : Cel) : vecI c 1000 = if badC c then 3 else 0 := by
  unfold vecI orI withinI badC farB
  by_cases h1 : c.1 < -1000 ∨ 1000 < c.1 <;> by_cases h2 : c.2.1 < -1000 ∨ 1000 < c.2.1 <;> by_cases h3 : c.2.2 < -1000 ∨ 1000 < c.2.2 <;> simp [h1, h2, h3]
theorem checkCellG (x y z : Int) (w : World) :
    Calls Try.prog 38 #[.agg #[.int .i64 x, .int .i64 y, .int .i64 z]] w fun e w' => e = .returned (.int .i64 (if badC (x, y, z) then 3 else 0)) ∧ Below w.heap.size w w' := by
  have h := checkCell_ok x y z w
  rwa [vecI_bad] at h
theorem cmp3_neg (a b : Cel) : (cmp3 a.1 a.2.1 a.2.2 b.1 b.2.1 b.2.2 < 0) ↔ ltC a b = true := cmp3_lt a b
theorem gridCheckG (l : List Cel) (v : Value) (w : World) (hl : Sl w v l) (hn : l.length ≤ maxLen) :
    Calls Try.prog 22 #[v] w fun e w' => e = .returned (.int .i64 (chkI l)) ∧ Below w.heap.size w w' := by
  unfold maxLen at hn
  obtain ⟨A, cap, rfl⟩ := hl.form
  by_cases h4 : 4096 < l.length
  · have hn' : (4096 : Int) < l.length := by omega
    have e : chkI l = 5 := by unfold chkI; rw [if_pos h4]
    rw [e]
    clear hl h4 e
    go_enter Try.func22, Try.ntmps22
    go_wp2
    go_ret
    exact ⟨rfl, Below.refl _ _⟩
  · have hn' : ¬ ((4096 : Int) < l.length) := by omega
    have e : chkI l = chkFrom (prevC l 0) (l.drop 0) := by unfold chkI; rw [if_neg h4]; rfl
    rw [e]
    clear e
    go_enter Try.func22, Try.ntmps22
    go_wp2
    go_loopw [11] (fun i wr => ∃ k : Nat, k ≤ l.length ∧ i = .int .i64 k ∧ Below w.heap.size w wr ∧ chkFrom (prevC l k) (l.drop k) = chkFrom (prevC l 0) (l.drop 0)) (fun i _ => l.length - (intOf i).toNat)
    case atStart => exact ⟨0, Nat.zero_le _, rfl, Below.refl _ _, rfl⟩
    case round =>
      obtain ⟨k, hk, rfl, hBel, hch⟩ := hrel
      rcases Nat.lt_or_eq_of_le hk with hkn | rfl
      · obtain ⟨b, o, x, y, z, rfl, -, hb, hc, r0, r1, r2⟩ := hl.cells hkn
        rw [chk_step hc] at hch
        have hv := fun W => checkCellG x y z W
        have hsz := hBel.size
        rw [← hBel.cell (p := ⟨b, _, none⟩) hb] at r0 r1 r2
        cases hbad : badC (x, y, z) with
        | true =>
          rw [hbad] at hch hv
          simp only [if_true] at hch hv
          have Hch := Lib.hid hch
          clear hl hbad hch
          go_wp2_with (go_at_call 38; refine (hv _).mono ?_; rintro e w2 ⟨rfl, hB2⟩)
          go_ret
          exact ⟨by rw [← Hch.out]; rfl, (hBel.alloc hsz _).trans (hB2.mono (by simp; omega))⟩
        | false =>
          rw [hbad] at hch hv
          simp only [Bool.false_eq_true, if_false] at hch hv
          rcases Nat.eq_zero_or_pos k with rfl | hpos
          · have hp : prevC l 0 = none := rfl
            rw [hp] at hch
            simp only [Option.any_none, Bool.false_eq_true, if_false] at hch
            simp only [Nat.zero_mul, Nat.add_zero] at r0 r1 r2
            have Hch := Lib.hid hch
            clear hl hbad hch hp
            go_wp2_with (go_at_call 38; refine (hv _).mono ?_; rintro e w2 ⟨rfl, hB2⟩)
            have hB3 : Below w.heap.size w w2 := (hBel.alloc hsz _).trans (hB2.mono (by simp; omega))
            clear hB2 hv hBel
            go_quiet (fail)
            go_wp2
            exact ⟨⟨1, hkn, rfl, ⟨hB3.os, hB3.tape, hB3.output, hB3.size, hB3.block⟩, Hch.out⟩, by simp [intOf]; omega⟩
          · obtain ⟨b', o', px, py, pz, e1, -, -, hp, q0, q1, q2⟩ := hl.cells (k := k - 1) (by omega)
            obtain ⟨rfl, rfl⟩ : b' = b ∧ o' = o := by injection e1 with e1; injection e1 with e1 e2; exact ⟨e1.symm, e2.symm⟩
            have hpv : prevC l k = some (px, py, pz) := by unfold prevC; rw [if_neg (by omega)]; exact hp
            rw [hpv] at hch
            simp only [Option.any_some] at hch
            have hcm := fun W => compareCells_ok px py pz x y z W
            have hlt3 := cmp3_neg (px, py, pz) (x, y, z)
            dsimp only at hlt3
            generalize cmp3 px py pz x y z = r at hlt3 hcm
            have hkk : (k - 1) * 3 + 3 = k * 3 := by omega
            clear hl e1 hpv hbad
            go_wp2_with (go_at_call 38; refine (hv _).mono ?_; rintro e w2 ⟨rfl, hB2⟩)
            have hB3 : Below w.heap.size w w2 := (hBel.alloc hsz _).trans (hB2.mono (by simp; omega))
            have c0 : w2.cell? ⟨wr.heap.size, 0, none⟩ = some (.int .i64 x) := by rw [hB2.cell (p := ⟨wr.heap.size, 0, none⟩) (by simp)]; go_simp
            have c1 : w2.cell? ⟨wr.heap.size, 1, none⟩ = some (.int .i64 y) := by rw [hB2.cell (p := ⟨wr.heap.size, 1, none⟩) (by simp)]; go_simp
            have c2 : w2.cell? ⟨wr.heap.size, 2, none⟩ = some (.int .i64 z) := by rw [hB2.cell (p := ⟨wr.heap.size, 2, none⟩) (by simp)]; go_simp
            rw [← hB3.cell (p := ⟨b', _, none⟩) hb] at q0 q1 q2
            clear hB2 hv hBel r0 r1 r2
            have hw : IntKind.i64.wrap ((k : Int) - 1) = (k : Int) - 1 := wrapS (by omega)
            have hi0 : 1 ≤ (k : Int) := by omega
            have hi1 : (k : Int) - 1 < l.length := by omega
            have hit : ((k : Int) - 1).toNat = k - 1 := by omega
            have hd : decide ((0 : Int) < k) = true := by simp; omega
            go_still_tail 9, (by kernel_rfl)
            change wpList _ _ _ _ _ w2.drew
            have hB4 : Below w.heap.size w w2.drew := ⟨hB3.os, hB3.tape, hB3.output, hB3.size, hB3.block⟩
            clear q0 q1 q2 c0 c1 c2 hw hi0 hi1 hit hd hB3
            generalize w2.drew = w3 at hB4 ⊢
            cases hlt : ltC (px, py, pz) (x, y, z) with
            | true =>
              simp only [hlt, Bool.not_true, Bool.false_eq_true, if_false] at hch
              have hr : ¬ (0 ≤ r) := by have := hlt3.2 hlt; omega
              have Hch := Lib.hid hch
              clear hlt hch hlt3
              go_wp2_with (go_at_call 48; refine (hcm _).mono ?_; rintro e w4 ⟨rfl, hB5⟩)
              exact ⟨⟨k + 1, hkn, rfl, hB4.trans (hB5.mono hB4.size), Hch.out⟩, by simp [intOf]; omega⟩
            | false =>
              simp only [hlt, Bool.not_false, if_true] at hch
              have hr : 0 ≤ r := by
                rcases Int.lt_or_le r 0 with h | h
                · rw [hlt3.1 h] at hlt; cases hlt
                · exact h
              have Hch := Lib.hid hch
              clear hlt hch hlt3
              go_wp2_with (go_at_call 48; refine (hcm _).mono ?_; rintro e w4 ⟨rfl, hB5⟩)
              go_ret
              exact ⟨by rw [← Hch.out]; rfl, hB4.trans (hB5.mono hB4.size)⟩
      · rw [List.drop_length] at hch
        have hch' : (0 : Int) = chkFrom (prevC l 0) (l.drop 0) := by rw [← hch]; cases prevC l l.length <;> rfl
        have Hch := Lib.hid hch'
        clear hl hch hch'
        go_wp2
        go_ret
        exact ⟨by rw [← Hch.out]; rfl, hBel⟩
end Go.Proofs
end

section
/- grid.bound and grid.Bound. -/
namespace Go.Proofs
open Go.RowKit
set_option maxHeartbeats 8000000
set_option maxRecDepth 1000000
theorem bound_ok (l : List Cel) (h : Cel) (v : Value) (w : World) (hl : Sl w v l) (hh : l[0]? = some h) (hn : l.length ≤ 1000000) :
    Calls Try.prog 44 #[v] w fun e w' => e = .returned (boxV (bndK h l l.length)) ∧ Below w.heap.size w w' := by
  have hpos : 0 < l.length := (List.getElem?_eq_some_iff.1 hh).1
  obtain ⟨A, cap, rfl⟩ := hl.form
  obtain ⟨b, o, x, y, z, rfl, -, hb, hc, r0, r1, r2⟩ := hl.cells hpos
  obtain rfl : h = (x, y, z) := by rw [hh] at hc; exact Option.some.inj hc
  have hn0 : (0 : Int) < l.length := by omega
  have hn1 : (0 : Int) ≤ 0 := Int.le_refl _
  simp only [Nat.zero_mul, Nat.add_zero] at r0 r1 r2
  have hl' := hl
  clear hl
  have hl := Lib.hid hl'
  clear hl'
  go_enter Try.func44, Try.ntmps44
  go_wp2
  obtain ⟨W, hW⟩ : ∃ W, W = w.alloc (.cells #[.int .i64 0, .int .i64 0, .int .i64 0, .int .i64 0, .int .i64 0, .int .i64 0] 45) := ⟨_, rfl⟩
  have hBW : Below w.heap.size w W := by subst hW; exact (Below.refl _ _).alloc (Nat.le_refl _) _
  have hs : w.heap.size < W.heap.size := by subst hW; simp
  have hZ0 : W.heap[w.heap.size]? = some (.cells #[.int .i64 0, .int .i64 0, .int .i64 0, .int .i64 0, .int .i64 0, .int .i64 0] 45 (0, 0)) := by subst hW; exact heap_alloc_new w _
  have R0 : W.cell? ⟨b, o, none⟩ = some (.int .i64 x) := (hBW.cell (p := ⟨b, o, none⟩) hb).trans r0
  have R1 : W.cell? ⟨b, o + 1, none⟩ = some (.int .i64 y) := (hBW.cell (p := ⟨b, o + 1, none⟩) hb).trans r1
  have R2 : W.cell? ⟨b, o + 2, none⟩ = some (.int .i64 z) := (hBW.cell (p := ⟨b, o + 2, none⟩) hb).trans r2
  have hbW : b < W.heap.size := Nat.lt_trans hb hs
  rw [← hW]
  clear hW r0 r1 r2
  go_region_held3 (fun w' => w'.cell? ⟨b, o, none⟩ = some (.int .i64 x) ∧ w'.cell? ⟨b, o + 1, none⟩ = some (.int .i64 y) ∧ w'.cell? ⟨b, o + 2, none⟩ = some (.int .i64 z)) (first | exact ⟨R0, R1, R2⟩ | go_keep) (fail)
  rename_i hHeld
  clear hHeld
  obtain ⟨V, hV⟩ : ∃ V, V = (W.alloc (.cells #[.int .i64 x, .int .i64 y, .int .i64 z, .int .i64 x, .int .i64 y, .int .i64 z] 45)).drew := ⟨_, rfl⟩
  have hBV : Below w.heap.size w V := by subst hV; exact (hBW.alloc hBW.size _).drew
  have hG : V.heap[W.heap.size]? = some (.cells #[.int .i64 x, .int .i64 y, .int .i64 z, .int .i64 x, .int .i64 y, .int .i64 z] 45 (0, 0)) := by subst hV; exact heap_alloc_new W _
  rw [← hV]
  have hZV : V.heap[w.heap.size]? = some (.cells #[.int .i64 0, .int .i64 0, .int .i64 0, .int .i64 0, .int .i64 0, .int .i64 0] 45 (0, 0)) := by subst hV; exact (Below.heap_alloc W _ _ hs).trans hZ0
  have hGw : w.heap.size ≤ W.heap.size := Nat.le_of_lt hs
  have hGn : w.heap.size ≠ W.heap.size := Nat.ne_of_lt hs
  have hGl : W.heap.size < V.heap.size := by subst hV; simp
  clear hV R0 R1 R2 hs hBW hbW hZ0
  generalize W.heap.size = G at hG hGw hGn hGl ⊢
  go_wp2
  go_loopw [15] (fun i wr => ∃ (k : Nat) (B : Cel × Cel), k ≤ l.length ∧ i = .int .i64 k ∧ B = bndK (x, y, z) l k ∧ wr.heap[G]? = some (.cells #[.int .i64 B.1.1, .int .i64 B.1.2.1, .int .i64 B.1.2.2, .int .i64 B.2.1, .int .i64 B.2.2.1, .int .i64 B.2.2.2] 45 (0, 0)) ∧ wr.heap[w.heap.size]? = some (.cells #[.int .i64 0, .int .i64 0, .int .i64 0, .int .i64 0, .int .i64 0, .int .i64 0] 45 (0, 0)) ∧ Below w.heap.size w wr ∧ G < wr.heap.size) (fun i _ => l.length - (intOf i).toNat)
  case atStart => exact ⟨0, ((x, y, z), (x, y, z)), Nat.zero_le _, rfl, rfl, hG, hZV, hBV, hGl⟩
  case round =>
    obtain ⟨k, ⟨⟨lx, ly, lz⟩, ⟨ux, uy, uz⟩⟩, hk, rfl, hBk, hg, hz, hBel, hGl1⟩ := hrel
    dsimp only at hg
    rename World => w1
    rcases Nat.lt_or_eq_of_le hk with hkn | rfl
    · obtain ⟨b', o', x', y', z', e', -, hb', hc', r0, r1, r2⟩ := hl.out.cells hkn
      obtain ⟨rfl, rfl⟩ : b' = b ∧ o' = o := by injection e' with e'; injection e' with e1 e2; exact ⟨e1.symm, e2.symm⟩
      have hst := bndK_succ (h := (x, y, z)) hc'
      rw [← hBk] at hst
      have R0 := (hBel.cell (p := ⟨b', _, none⟩) hb).trans r0
      have R1 := (hBel.cell (p := ⟨b', _, none⟩) hb).trans r1
      have R2 := (hBel.cell (p := ⟨b', _, none⟩) hb).trans r2
      have hk0 : (0 : Int) ≤ k := by omega
      have hkl : (k : Int) < l.length := by omega
      have Hst := Lib.hid hst
      obtain ⟨w2, hw2⟩ : ∃ w2, w2 = w1.alloc (.cells #[.int .i64 x', .int .i64 y', .int .i64 z'] 26) := ⟨_, rfl⟩
      have hB12 : Below w1.heap.size w1 w2 := by subst hw2; exact (Below.refl _ _).alloc (Nat.le_refl _) _
      have d0 : w2.cell? ⟨w1.heap.size, 0, none⟩ = some (.int .i64 x') := by subst hw2; go_simp
      have d1 : w2.cell? ⟨w1.heap.size, 1, none⟩ = some (.int .i64 y') := by subst hw2; go_simp
      have d2 : w2.cell? ⟨w1.heap.size, 2, none⟩ = some (.int .i64 z') := by subst hw2; go_simp
      have hg2 : w2.heap[G]? = _ := (hB12.block G hGl1).trans hg
      have hz2 : w2.heap[w.heap.size]? = _ := (hB12.block _ (by have := hBel.size; omega)).trans hz
      have hB2 := hBel.trans (hB12.mono hBel.size)
      have hGne : G ≠ w1.heap.size := by omega
      have hG2 : G < w2.heap.size := Nat.lt_of_lt_of_le hGl1 hB12.size
      have cl := fun j => cell_of_row w2 G j _ _ _ hg2
      have c0 := cl 0
      have c1 := cl 1
      have c2 := cl 2
      have c3 := cl 3
      have c4 := cl 4
      have c5 := cl 5
      have fz := fun j => frozen_of_row w2 G j _ _ hg2
      simp at c0 c1 c2 c3 c4 c5
      clear hc hh hG hZV hBV r0 r1 r2 e' cl hst hBk hg hz hB12 hBel hc' hb' hl
      go_upto_region 5 with fail
      rw [← hw2]
      clear hw2 R0 R1 R2
      have hg3 := heap_setCell_same _ G 2 _ _ (.int .i64 (min lz z')) (heap_setCell_same _ G 1 _ _ (.int .i64 (min ly y')) (heap_setCell_same _ G 0 _ _ (.int .i64 (min lx x')) hg2))
      have hz3 := (heap_setCell_other _ ⟨G, 2, none⟩ w.heap.size (.int .i64 (min lz z')) hGn).trans ((heap_setCell_other _ ⟨G, 1, none⟩ w.heap.size (.int .i64 (min ly y')) hGn).trans ((heap_setCell_other _ ⟨G, 0, none⟩ w.heap.size (.int .i64 (min lx x')) hGn).trans hz2))
      have hB3 := ((hB2.setCell (p := ⟨G, 0, none⟩) hGw (.int .i64 (min lx x'))).setCell (p := ⟨G, 1, none⟩) hGw (.int .i64 (min ly y'))).setCell (p := ⟨G, 2, none⟩) hGw (.int .i64 (min lz z'))
      have hG3 : G < (((w2.setCell ⟨G, 0, none⟩ (.int .i64 (min lx x'))).setCell ⟨G, 1, none⟩ (.int .i64 (min ly y'))).setCell ⟨G, 2, none⟩ (.int .i64 (min lz z'))).heap.size := by simpa [World.setCell] using hG2
      have e0 : (((w2.setCell ⟨G, 0, none⟩ (.int .i64 (min lx x'))).setCell ⟨G, 1, none⟩ (.int .i64 (min ly y'))).setCell ⟨G, 2, none⟩ (.int .i64 (min lz z'))).cell? ⟨w1.heap.size, 0, none⟩ = some (.int .i64 x') := by go_simp
      have e1 : (((w2.setCell ⟨G, 0, none⟩ (.int .i64 (min lx x'))).setCell ⟨G, 1, none⟩ (.int .i64 (min ly y'))).setCell ⟨G, 2, none⟩ (.int .i64 (min lz z'))).cell? ⟨w1.heap.size, 1, none⟩ = some (.int .i64 y') := by go_simp
      have e2 : (((w2.setCell ⟨G, 0, none⟩ (.int .i64 (min lx x'))).setCell ⟨G, 1, none⟩ (.int .i64 (min ly y'))).setCell ⟨G, 2, none⟩ (.int .i64 (min lz z'))).cell? ⟨w1.heap.size, 2, none⟩ = some (.int .i64 z') := by go_simp
      simp at hg3
      clear hg2 hz2 hB2
      go_upto_region 6 with fail
      generalize ((w2.setCell ⟨G, 0, none⟩ (.int .i64 (min lx x'))).setCell ⟨G, 1, none⟩ (.int .i64 (min ly y'))).setCell ⟨G, 2, none⟩ (.int .i64 (min lz z')) = w3 at hg3 hz3 hB3 hG3 e0 e1 e2 ⊢
      clear fz c0 c1 c2 c3 c4 c5 d0 d1 d2 hG2
      have cl := fun j => cell_of_row w3 G j _ _ _ hg3
      have c3 := cl 3
      have c4 := cl 4
      have c5 := cl 5
      have fz := fun j => frozen_of_row w3 G j _ _ hg3
      simp at c3 c4 c5
      clear cl
      have hg4 := heap_setCell_same _ G 5 _ _ (.int .i64 (max uz z')) (heap_setCell_same _ G 4 _ _ (.int .i64 (max uy y')) (heap_setCell_same _ G 3 _ _ (.int .i64 (max ux x')) hg3))
      have hz4 := (heap_setCell_other _ ⟨G, 5, none⟩ w.heap.size (.int .i64 (max uz z')) hGn).trans ((heap_setCell_other _ ⟨G, 4, none⟩ w.heap.size (.int .i64 (max uy y')) hGn).trans ((heap_setCell_other _ ⟨G, 3, none⟩ w.heap.size (.int .i64 (max ux x')) hGn).trans hz3))
      have hB4 := ((hB3.setCell (p := ⟨G, 3, none⟩) hGw (.int .i64 (max ux x'))).setCell (p := ⟨G, 4, none⟩) hGw (.int .i64 (max uy y'))).setCell (p := ⟨G, 5, none⟩) hGw (.int .i64 (max uz z'))
      simp at hg4
      have Hg4 := Lib.hid hg4
      have Hz4 := Lib.hid hz4
      clear hg3 hz3 hB3 hg4 hz4
      go_wp2
      exact ⟨⟨k + 1, ((min lx x', min ly y', min lz z'), (max ux x', max uy y', max uz z')), hkn, rfl, Hst.out.symm, Hg4.out, Hz4.out, hB4, by simpa [World.setCell] using hG3⟩, by simp [intOf]; omega⟩
    · have cl := fun j => cell_of_row w1 G j _ _ _ hg
      have c0 := cl 0
      have c1 := cl 1
      have c2 := cl 2
      have c3 := cl 3
      have c4 := cl 4
      have c5 := cl 5
      simp at c0 c1 c2 c3 c4 c5
      have zl := fun j => cell_of_row w1 w.heap.size j _ _ _ hz
      have z0 := zl 0
      have z1 := zl 1
      have z2 := zl 2
      have z3 := zl 3
      have z4 := zl 4
      have z5 := zl 5
      simp at z0 z1 z2 z3 z4 z5
      have fz := fun j => frozen_of_row w1 w.heap.size j _ _ hz
      have hz' := heap_setCell_same _ w.heap.size 5 _ _ (.int .i64 uz) (heap_setCell_same _ w.heap.size 4 _ _ (.int .i64 uy) (heap_setCell_same _ w.heap.size 3 _ _ (.int .i64 ux) (heap_setCell_same _ w.heap.size 2 _ _ (.int .i64 lz) (heap_setCell_same _ w.heap.size 1 _ _ (.int .i64 ly) (heap_setCell_same _ w.heap.size 0 _ _ (.int .i64 lx) hz)))))
      simp at hz'
      have hle := Nat.le_refl w.heap.size
      have hB' := (((((hBel.setCell (p := ⟨w.heap.size, 0, none⟩) hle (.int .i64 lx)).setCell (p := ⟨w.heap.size, 1, none⟩) hle (.int .i64 ly)).setCell (p := ⟨w.heap.size, 2, none⟩) hle (.int .i64 lz)).setCell (p := ⟨w.heap.size, 3, none⟩) hle (.int .i64 ux)).setCell (p := ⟨w.heap.size, 4, none⟩) hle (.int .i64 uy)).setCell (p := ⟨w.heap.size, 5, none⟩) hle (.int .i64 uz)
      have HBk := Lib.hid hBk
      have Hz' := Lib.hid hz'
      clear hl hc hh hG hZV hBV cl hBk zl hz hz' hg
      go_wp2
      have hfin := HBk.out
      refine bodyPost_ret (results_cell_row rfl _ _ _ 45 #[.int .i64 lx, .int .i64 ly, .int .i64 lz, .int .i64 ux, .int .i64 uy, .int .i64 uz] (0, 0) _ rfl Hz'.out Try.underlying45 rfl (by kernel_rfl)) rfl ?_
      refine ⟨?_, hB'⟩
      rw [← hfin]
      rfl
end Go.Proofs
end
