import Derived.Deep.RegionHeld3
import Derived.Test.YtokhbkhoidpefaaGreatDoorRefTurns
import Derived.Test.YtokhbkhoidpefaaGreatDoorTurnZ
import Derived.Test.YtokhbkhoidpefaaGreatDoorUnionR
section
/- Steps of a held region by hand: an operation whose guard says no is passed over first. -/
namespace Go.Proofs
theorem held_no {P : Program} {ops : Array Oper} {Q : Exit → Act → World → Prop} {md : Region.Mode} {S : World → Prop} (i : Nat) (d : Option Tmp) {oi : Oper} {fuel : Nat} {listed : Array Bool} {a : Act} {w : World} (hi : ops[i]? = some oi) (hd : oi.dst = d)
    (hs : Region.noSelect ops = true) (hf : Region.free md ops listed i = true) (hr : (Region.ready md ops listed).contains i = true)
    (hQ : ∀ c a w, Q (.panic c) (a.put oi.dst undef) w → Q (.panic c) a w) (hw : Region.wanted oi (yielded ops a.tmps) = false) (hS : S w)
    (h : wpAnyH P md ops Q S fuel (listed.setIfInBounds i true) (a.put d undef) w) : wpAnyH P md ops Q S (fuel + 1) listed a w := by
  subst hd
  exact wpAnyH_take hi hs hf hr hQ (.inr ⟨hw, rfl⟩) hS h
theorem held_yes {P : Program} {ops : Array Oper} {Q : Exit → Act → World → Prop} {md : Region.Mode} {S : World → Prop} (i : Nat) (d : Option Tmp) (v : Value) {oi : Oper} {fuel : Nat} {listed : Array Bool} {a : Act} {w : World} (hi : ops[i]? = some oi) (hd : oi.dst = d)
    (hs : Region.noSelect ops = true) (hf : Region.free md ops listed i = true) (hr : (Region.ready md ops listed).contains i = true)
    (hQ : ∀ c a w, Q (.panic c) (a.put oi.dst v) w → Q (.panic c) a w) (hw : Region.wanted oi (yielded ops a.tmps) = true) (hy : ∀ w, S w → (execOp a.eval oi).run P w = .ok (.value v) w) (hS : S w)
    (h : wpAnyH P md ops Q S fuel (listed.setIfInBounds i true) (a.put d v) w) : wpAnyH P md ops Q S (fuel + 1) listed a w := by
  subst hd
  exact wpAnyH_take hi hs hf hr hQ (.inl ⟨hw, hy⟩) hS h
end Go.Proofs
end

section
/- The reference's Turn. -/
namespace Go.Proofs
open Go.Shelf Go.RowKit Go.Lib Go.Sort
set_option maxHeartbeats 16000000
set_option maxRecDepth 1000000
theorem rowT_at : ∀ n, n < 24 → rowT[n * 3]? = some (some (.int .i64 ((turnA n).1 : Nat))) ∧ rowT[n * 3 + 1]? = some (some (.int .i64 ((turnA n).2.1 : Nat))) ∧ rowT[n * 3 + 2]? = some (some (.int .i64 ((turnA n).2.2 : Nat))) := by
  intro n hn
  iterate 24 (rcases n with _ | n; exact ⟨rfl, rfl, rfl⟩)
  omega
theorem refTurn_ok (l : List Cel) (v : Value) (n : Nat) (hn24 : n < 24) (ox oy oz : Int) (w : World) (hl : Sl w v l) (hn : l.length ≤ 400000) (ho : Near (ox, oy, oz) 1000) (hbig : ∀ c ∈ l, Near c 1000) :
    Calls Tryz.prog 20 #[v, .int .i64 n, .agg #[.int .i64 ox, .int .i64 oy, .int .i64 oz]] w fun e w' => ∃ v' out, e = .returned v' ∧ Own w' w.heap.size v' out ∧ Up out ∧ (∀ c, c ∈ out ↔ c ∈ l.map (turnB n (ox, oy, oz))) ∧ Below w.heap.size w w' := by
  have hrt := rowT_at n hn24
  have h6 := turnA_lt hn24
  unfold turnB
  generalize turnA n = tn at hrt h6 ⊢
  obtain ⟨a, b, c⟩ := tn
  dsimp only at hrt h6 ⊢
  obtain ⟨W0, hW⟩ : ∃ W0, W0 = w.alloc (.cells #[.int .i64 ox, .int .i64 oy, .int .i64 oz] 24) := ⟨_, rfl⟩
  have d0 : W0.cell? ⟨w.heap.size, 0, none⟩ = some (.int .i64 ox) := by subst hW; go_simp
  have d1 : W0.cell? ⟨w.heap.size, 1, none⟩ = some (.int .i64 oy) := by subst hW; go_simp
  have d2 : W0.cell? ⟨w.heap.size, 2, none⟩ = some (.int .i64 oz) := by subst hW; go_simp
  have hK0 : Below w.heap.size w W0 := by subst hW; exact (Below.refl _ _).alloc (Nat.le_refl _) _
  have hlt : w.heap.size < W0.heap.size := by subst hW; simp
  replace hl := hl.below hK0
  have hT := refTurns_ok W0
  obtain ⟨A, cap, rfl⟩ := hl.form
  have hi0 : (0 : Int) ≤ n := by omega
  have hi1 : (n : Int) < 24 := by omega
  clear hn24
  go_enter Tryz.func20, Tryz.ntmps20
  go_wp2_with fail
  rw [← hW]
  clear hW
  refine hT.mono ?_
  rintro e wt ⟨g, og, gcap, rfl, hg, hrow, hBt⟩
  have t0 := hrow (n * 3) _ hrt.1 (fun _ _ h => by cases h; rfl)
  have t1 := hrow (n * 3 + 1) _ hrt.2.1 (fun _ _ h => by cases h; rfl)
  have t2 := hrow (n * 3 + 2) _ hrt.2.2 (fun _ _ h => by cases h; rfl)
  simp only [← Nat.add_assoc] at t0 t1 t2
  clear hrow hrt hT
  obtain ⟨W1, hW1⟩ : ∃ W1, W1 = wt.alloc (.cells #[.int .i64 a, .int .i64 b, .int .i64 c] 102) := ⟨_, rfl⟩
  have x0 : W1.cell? ⟨wt.heap.size, 0, none⟩ = some (.int .i64 a) := by subst hW1; go_simp
  have x1 : W1.cell? ⟨wt.heap.size, 1, none⟩ = some (.int .i64 b) := by subst hW1; go_simp
  have x2 : W1.cell? ⟨wt.heap.size, 2, none⟩ = some (.int .i64 c) := by subst hW1; go_simp
  have hK1 : Below W0.heap.size W0 W1 := by subst hW1; exact hBt.alloc hBt.size _
  have hlt1 : wt.heap.size < W1.heap.size := by subst hW1; simp
  replace d0 := (hK1.cell (p := ⟨w.heap.size, 0, none⟩) hlt).trans d0
  replace d1 := (hK1.cell (p := ⟨w.heap.size, 1, none⟩) hlt).trans d1
  replace d2 := (hK1.cell (p := ⟨w.heap.size, 2, none⟩) hlt).trans d2
  have hlt0 : w.heap.size < W1.heap.size := Nat.lt_of_lt_of_le hlt hK1.size
  replace hl := hl.below hK1
  replace hK0 := hK0.trans (hK1.mono hK0.size)
  clear hK1 hBt
  go_wp2
  rw [← hW1]
  clear hW1 t0 t1 t2 hi0 hi1
  go_loopw [8, 9] (fun s i wr => ∃ k : Nat, k ≤ l.length ∧ i = .int .i64 k ∧ Own wr W1.heap.size s ((l.take k).map (turnC a b c (ox, oy, oz))) ∧ Below W1.heap.size W1 wr) (fun _ i _ => l.length - (intOf i).toNat)
  case atStart => exact ⟨0, Nat.zero_le _, rfl, Own.nil _ _, Below.refl _ _⟩
  case round =>
    obtain ⟨k, hk, rfl, hown, hBel⟩ := hrel
    rename World => w1
    rcases Nat.lt_or_eq_of_le hk with hkn | rfl
    · obtain ⟨bk, of, x, y, z, rfl, -, hbk, hc, r0, r1, r2⟩ := hl.cells hkn
      have hnear := hbig _ (List.mem_of_getElem? hc)
      unfold Near at hnear ho
      dsimp only at hnear ho
      have hft : (l.take (k + 1)).map (turnC a b c (ox, oy, oz)) = (l.take k).map (turnC a b c (ox, oy, oz)) ++ [((ox + pickI (x - ox) (y - oy) (z - oz) a), (oy + pickI (x - ox) (y - oy) (z - oz) b), (oz + pickI (x - ox) (y - oy) (z - oz) c))] := by
        rw [List.take_add_one, hc]; simp [turnC]
      have hlen : ((l.take k).map (turnC a b c (ox, oy, oz))).length ≤ 400000 := by rw [List.length_map, List.length_take]; omega
      have hv := fun W => vector_ok ox oy oz x y z W (by omega) (by omega) (by omega)
      have hth := fun W => through_ok a b c h6.1 h6.2.1 h6.2.2 (x - ox) (y - oy) (z - oz) W (by omega) (by omega) (by omega)
      have pa := pickI_le (x := x - ox) (y := y - oy) (z := z - oz) (n := 2000) (by omega) (by omega) (by omega)
      have hmv := fun W => refMoved_ok ox oy oz (pickI (x - ox) (y - oy) (z - oz) a) (pickI (x - ox) (y - oy) (z - oz) b) (pickI (x - ox) (y - oy) (z - oz) c) W (by have := pa a; omega) (by have := pa b; omega) (by have := pa c; omega)
      have Hft := Lib.hid hft
      have hsz := hBel.size
      have kS : ∀ w', Below W1.heap.size w1 w' → w'.cell? ⟨bk, of + k * 3, none⟩ = some (.int .i64 x) ∧ w'.cell? ⟨bk, of + k * 3 + 1, none⟩ = some (.int .i64 y) ∧ w'.cell? ⟨bk, of + k * 3 + 2, none⟩ = some (.int .i64 z) ∧ w'.cell? ⟨w.heap.size, 0, none⟩ = some (.int .i64 ox) ∧ w'.cell? ⟨w.heap.size, 1, none⟩ = some (.int .i64 oy) ∧ w'.cell? ⟨w.heap.size, 2, none⟩ = some (.int .i64 oz) ∧ w'.cell? ⟨wt.heap.size, 0, none⟩ = some (.int .i64 (a : Nat)) ∧ w'.cell? ⟨wt.heap.size, 1, none⟩ = some (.int .i64 (b : Nat)) ∧ w'.cell? ⟨wt.heap.size, 2, none⟩ = some (.int .i64 (c : Nat)) := fun w' h => ⟨((hBel.trans h).cell (p := ⟨bk, _, none⟩) hbk).trans r0, ((hBel.trans h).cell (p := ⟨bk, _, none⟩) hbk).trans r1, ((hBel.trans h).cell (p := ⟨bk, _, none⟩) hbk).trans r2, ((hBel.trans h).cell (p := ⟨w.heap.size, 0, none⟩) hlt0).trans d0, ((hBel.trans h).cell (p := ⟨w.heap.size, 1, none⟩) hlt0).trans d1, ((hBel.trans h).cell (p := ⟨w.heap.size, 2, none⟩) hlt0).trans d2, ((hBel.trans h).cell (p := ⟨wt.heap.size, 0, none⟩) hlt1).trans x0, ((hBel.trans h).cell (p := ⟨wt.heap.size, 1, none⟩) hlt1).trans x1, ((hBel.trans h).cell (p := ⟨wt.heap.size, 2, none⟩) hlt1).trans x2⟩
      have hX1 : Below w1.heap.size w1 w1.drew := (Below.refl _ _).drew
      have hS1 := kS w1.drew (hX1.mono hsz)
      clear hl hbig hc hft hnear ho d0 d1 d2 x0 x1 x2 r0 r1 r2 pa h6
      have hi0 : (0 : Int) ≤ k := by omega
      have hi1 : (k : Int) < l.length := by omega
      go_wp2
      go_region_held3 (fun w' => w'.cell? ⟨bk, of + k * 3, none⟩ = some (.int .i64 x) ∧ w'.cell? ⟨bk, of + k * 3 + 1, none⟩ = some (.int .i64 y) ∧ w'.cell? ⟨bk, of + k * 3 + 2, none⟩ = some (.int .i64 z) ∧ w'.cell? ⟨w.heap.size, 0, none⟩ = some (.int .i64 ox) ∧ w'.cell? ⟨w.heap.size, 1, none⟩ = some (.int .i64 oy) ∧ w'.cell? ⟨w.heap.size, 2, none⟩ = some (.int .i64 oz) ∧ w'.cell? ⟨wt.heap.size, 0, none⟩ = some (.int .i64 (a : Nat)) ∧ w'.cell? ⟨wt.heap.size, 1, none⟩ = some (.int .i64 (b : Nat)) ∧ w'.cell? ⟨wt.heap.size, 2, none⟩ = some (.int .i64 (c : Nat))) (first | exact hS1 | exact hSv | exact hSt | exact hS2 | exact hS3 | exact hS4) (first
        | (go_at_call 80; refine (hv _).mono ?_; rintro e wv ⟨rfl, hBv⟩; have hXv := hX1.trans hBv; have hSv := kS wv (hXv.mono hsz))
        | (go_at_call 79; refine (hth _).mono ?_; rintro e wh ⟨rfl, hBh⟩; have hXh := hXv.trans (hBh.mono hXv.size); have hSt := kS wh (hXh.mono hsz))
        | (go_at_call 77; refine (hmv _).mono ?_; rintro e w2 ⟨rfl, hB2⟩; have hB12 := hXh.trans (hB2.mono hXh.size); have hS2 := kS w2 (hB12.mono hsz); have hownA := (hown.keep hB12).alloc (.cells #[.int .i64 (ox + pickI (x - ox) (y - oy) (z - oz) a), .int .i64 (oy + pickI (x - ox) (y - oy) (z - oz) b), .int .i64 (oz + pickI (x - ox) (y - oy) (z - oz) c)] 24); have hBa : Below W1.heap.size w1 (w2.alloc (.cells #[.int .i64 (ox + pickI (x - ox) (y - oy) (z - oz) a), .int .i64 (oy + pickI (x - ox) (y - oy) (z - oz) b), .int .i64 (oz + pickI (x - ox) (y - oy) (z - oz) c)] 24)) := (hB12.mono hsz).alloc (Nat.le_trans hsz hB12.size) _; have hS3 := kS _ hBa)
        | (refine step_append_sl rfl _ _ rfl W1.heap.size (Nat.le_trans hsz hBa.size) _ _ rfl hownA _ [((ox + pickI (x - ox) (y - oy) (z - oz) a), (oy + pickI (x - ox) (y - oy) (z - oz) b), (oz + pickI (x - ox) (y - oy) (z - oz) c))] rfl (.inr ⟨_, 1, rfl, row_one w2 (ox + pickI (x - ox) (y - oy) (z - oz) a) (oy + pickI (x - ox) (y - oy) (z - oz) b) (oz + pickI (x - ox) (y - oy) (z - oz) c)⟩) (by simp) (by simp at hlen ⊢; omega) ?_; intro v1 w3 hown3 hB3; have hBb := hBa.trans hB3; have hS4 := kS w3 hBb))
      rename_i hHeld
      clear hHeld hS1 hS2 hS3 hS4 kS hSv hSt
      go_wp2
      exact ⟨⟨k + 1, hkn, rfl, by rw [Hft.out]; exact hown3, hBel.trans hBb⟩, by simp [intOf]; omega⟩
    · rw [List.take_length] at hown
      have hs := refSorted_ok _ _ w1 hown.sl (by rw [List.length_map]; omega)
      clear hl hbig d0 d1 d2 x0 x1 x2
      have hKB := hK0.trans (hBel.mono hK0.size)
      go_wp2_with (go_at_call 81; refine hs.mono ?_; rintro e w9 ⟨v', out, rfl, ho', hu, hmem, hB9⟩)
      go_ret
      exact ⟨_, out, rfl, ho'.mono hKB.size, hu, hmem, hKB.trans (hB9.mono hKB.size)⟩
end Go.Proofs
end

section
/- The reference's Turned. -/
namespace Go.Proofs
open Go.RowKit
set_option maxHeartbeats 8000000
set_option maxRecDepth 1000000
theorem refTurned_ok (x y z : Int) (n : Nat) (hn24 : n < 24) (w : World) (k1 : -9000000 ≤ x ∧ x ≤ 9000000) (k2 : -9000000 ≤ y ∧ y ≤ 9000000) (k3 : -9000000 ≤ z ∧ z ≤ 9000000) :
    Calls Tryz.prog 82 #[.agg #[.int .i64 x, .int .i64 y, .int .i64 z], .int .i64 n] w fun e w' => e = .returned (.agg #[.int .i64 (pickI x y z (turnA n).1), .int .i64 (pickI x y z (turnA n).2.1), .int .i64 (pickI x y z (turnA n).2.2)]) ∧ Below w.heap.size w w' := by
  have hrt := rowT_at n hn24
  have h6 := turnA_lt hn24
  generalize turnA n = tn at hrt h6 ⊢
  obtain ⟨a, b, c⟩ := tn
  dsimp only at hrt h6 ⊢
  have hth := fun W => through_ok a b c h6.1 h6.2.1 h6.2.2 x y z W k1 k2 k3
  obtain ⟨W, hW⟩ : ∃ W, W = ((w.alloc (.cells #[.int .i64 x, .int .i64 y, .int .i64 z] 24)).alloc (.cells #[.int .i64 0, .int .i64 0, .int .i64 0] 24)) := ⟨_, rfl⟩
  have d0 : W.cell? ⟨w.heap.size, 0, none⟩ = some (.int .i64 x) := by subst hW; go_simp
  have d1 : W.cell? ⟨w.heap.size, 1, none⟩ = some (.int .i64 y) := by subst hW; go_simp
  have d2 : W.cell? ⟨w.heap.size, 2, none⟩ = some (.int .i64 z) := by subst hW; go_simp
  have hK0 : Below w.heap.size w W := by subst hW; exact ((Below.refl _ _).alloc (Nat.le_refl _) _).alloc (by simp) _
  have hlt : w.heap.size + 1 < W.heap.size := by subst hW; simp
  have hz0 : W.heap[w.heap.size + 1]? = some (.cells #[.int .i64 0, .int .i64 0, .int .i64 0] 24 (0, 0)) := by
    subst hW
    have := heap_alloc_new (w.alloc (.cells #[.int .i64 x, .int .i64 y, .int .i64 z] 24)) (.cells #[.int .i64 0, .int .i64 0, .int .i64 0] 24)
    rw [show (w.alloc (.cells #[.int .i64 x, .int .i64 y, .int .i64 z] 24)).heap.size = w.heap.size + 1 by simp] at this
    exact this
  have kS : ∀ w', Below W.heap.size W w' → w'.cell? ⟨w.heap.size, 0, none⟩ = some (.int .i64 x) ∧ w'.cell? ⟨w.heap.size, 1, none⟩ = some (.int .i64 y) ∧ w'.cell? ⟨w.heap.size, 2, none⟩ = some (.int .i64 z) := fun w' h => ⟨(h.cell (p := ⟨w.heap.size, 0, none⟩) (by dsimp only; omega)).trans d0, (h.cell (p := ⟨w.heap.size, 1, none⟩) (by dsimp only; omega)).trans d1, (h.cell (p := ⟨w.heap.size, 2, none⟩) (by dsimp only; omega)).trans d2⟩
  have hX : Below W.heap.size W W.drew := (Below.refl _ _).drew
  have hkk := kS _ hX
  have hT := fun W' => refTurns_ok W'
  have hn1 : ¬ (w.heap.size = w.heap.size + 1) := by omega
  have hn2 : ¬ (w.heap.size + 1 = w.heap.size) := by omega
  have hi0 : (0 : Int) ≤ n := by omega
  have hi1 : (n : Int) < 24 := by omega
  obtain ⟨q0, q1, q2⟩ := hrt
  clear hn24 k1 k2 k3 h6 d0 d1 d2
  go_enter Tryz.func82, Tryz.ntmps82
  go_wp2_with fail
  rw [← hW]
  clear hW
  refine wp_region_held_drew (S := fun w' => w'.cell? ⟨w.heap.size, 0, none⟩ = some (.int .i64 x) ∧ w'.cell? ⟨w.heap.size, 1, none⟩ = some (.int .i64 y) ∧ w'.cell? ⟨w.heap.size, 2, none⟩ = some (.int .i64 z)) (by kernel_rfl) hkk (fun hHeld => ?_)
  refine held_yes 0 (some 5) (.agg #[.int .i64 x, .int .i64 y, .int .i64 z]) rfl rfl (by kernel_rfl) (by kernel_rfl) (by kernel_rfl) (fun _ _ _ h => h) rfl (fun w' hS => by obtain ⟨s0, s1, s2⟩ := hS; go_simp) hHeld ?_
  try simp only [Act.put, List.setIfInBounds_toArray, List.set_cons_zero, List.set_cons_succ]
  refine held_yes 2 (some 7) (.int .i64 n) rfl rfl (by kernel_rfl) (by kernel_rfl) (by kernel_rfl) (fun _ _ _ h => h) rfl (fun w' hS => by obtain ⟨s0, s1, s2⟩ := hS; go_simp) hHeld ?_
  try simp only [Act.put, List.setIfInBounds_toArray, List.set_cons_zero, List.set_cons_succ]
  refine wpAnyH_ready (rs := [1]) (by kernel_rfl) (by simp) ?_
  refine AllReadyH.cons rfl (fun K hK => ?_) AllReadyH.nil
  go_simp
  refine (hT _).mono ?_
  rintro e wt ⟨g, og, gcap, rfl, hg, hrow, hBt⟩
  have hX := hX.trans (hBt.mono hX.size)
  have hkk := kS _ hX
  have t0 := hrow (n * 3) _ q0 (fun _ _ h => by cases h; rfl)
  have t1 := hrow (n * 3 + 1) _ q1 (fun _ _ h => by cases h; rfl)
  have t2 := hrow (n * 3 + 2) _ q2 (fun _ _ h => by cases h; rfl)
  simp only [← Nat.add_assoc] at t0 t1 t2
  clear hrow
  go_wp2_with fail
  refine hK.out _ _ hkk (fun hHeld => ?_)
  clear hK K
  try simp only [Act.put, List.setIfInBounds_toArray, List.set_cons_zero, List.set_cons_succ]
  refine wpAnyH_ready (rs := [3]) (by kernel_rfl) (by simp) ?_
  refine AllReadyH.cons rfl (fun K hK => ?_) AllReadyH.nil
  go_simp
  refine hK.out _ _ hkk (fun hHeld => ?_)
  clear hK K
  try simp only [Act.put, List.setIfInBounds_toArray, List.set_cons_zero, List.set_cons_succ]
  refine wpAnyH_ready (rs := [4]) (by kernel_rfl) (by simp) ?_
  refine AllReadyH.cons rfl (fun K hK => ?_) AllReadyH.nil
  go_simp
  refine hK.out _ _ hkk (fun hHeld => ?_)
  clear hK K
  try simp only [Act.put, List.setIfInBounds_toArray, List.set_cons_zero, List.set_cons_succ]
  refine wpAnyH_ready (rs := [5]) (by kernel_rfl) (by simp) ?_
  refine AllReadyH.cons rfl (fun K hK => ?_) AllReadyH.nil
  go_simp
  refine (hth _).mono ?_
  rintro e w5 ⟨rfl, hB5⟩
  have hX := hX.trans (hB5.mono hX.size)
  have hkk := kS _ hX
  have hz5 := (hX.block _ hlt).trans hz0
  have z0 := cell_of_row w5 (w.heap.size + 1) 0 _ _ _ hz5
  have z1 := cell_of_row w5 (w.heap.size + 1) 1 _ _ _ hz5
  have z2 := cell_of_row w5 (w.heap.size + 1) 2 _ _ _ hz5
  simp at z0 z1 z2
  have fz := fun j => frozen_of_row w5 (w.heap.size + 1) j _ _ hz5
  go_wp2_with fail
  refine hK.out _ _ hkk (fun hHeld => ?_)
  clear hK K
  try simp only [Act.put, List.setIfInBounds_toArray, List.set_cons_zero, List.set_cons_succ]
  refine wpAnyH_ready (rs := [6]) (by kernel_rfl) (by simp) ?_
  refine AllReadyH.cons rfl (fun K hK => ?_) AllReadyH.nil
  go_simp
  refine hK.out _ _ (by go_keep) (fun hHeld => ?_)
  clear hK K
  try simp only [Act.put, List.setIfInBounds_toArray, List.set_cons_zero, List.set_cons_succ]
  refine wpAnyH_done (by kernel_rfl) ?_ _
  clear hHeld
  have hz' := heap_setCell_same _ (w.heap.size + 1) 2 _ _ (.int .i64 (pickI x y z c)) (heap_setCell_same _ (w.heap.size + 1) 1 _ _ (.int .i64 (pickI x y z b)) (heap_setCell_same _ (w.heap.size + 1) 0 _ _ (.int .i64 (pickI x y z a)) hz5))
  simp at hz'
  have hB' := (((hK0.trans (hX.mono hK0.size)).setCell (p := ⟨w.heap.size + 1, 0, none⟩) (by simp) (.int .i64 (pickI x y z a))).setCell (p := ⟨w.heap.size + 1, 1, none⟩) (by simp) (.int .i64 (pickI x y z b))).setCell (p := ⟨w.heap.size + 1, 2, none⟩) (by simp) (.int .i64 (pickI x y z c))
  have Hz' := Lib.hid hz'
  clear hz' hz5 z0 z1 z2 fz hkk kS hz0 hn1 hn2
  go_wp2
  refine bodyPost_ret (results_cell_row rfl _ _ _ 24 #[.int .i64 (pickI x y z a), .int .i64 (pickI x y z b), .int .i64 (pickI x y z c)] (0, 0) _ rfl ?_ Tryz.underlying24 rfl (by kernel_rfl)) rfl ?_
  · exact Hz'.out
  · exact ⟨rfl, hB'⟩
end Go.Proofs
end
