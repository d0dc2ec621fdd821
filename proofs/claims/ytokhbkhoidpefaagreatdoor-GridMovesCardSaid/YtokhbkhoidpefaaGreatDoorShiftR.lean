import Derived.Test.YtokhbkhoidpefaaGreatDoorTurnX
import Derived.Test.YtokhbkhoidpefaaGreatDoorG3
import Derived.Test.YtokhbkhoidpefaaGreatDoorUnionR
import Derived.Deep.AppendLies
import Derived.Deep.RegionHeld3
/- The reference's Moved and Shift. -/
namespace Go.Proofs
open Go.Shelf Go.RowKit Go.Lib Go.Sort
set_option maxHeartbeats 8000000
set_option maxRecDepth 1000000
theorem refMoved_ok (x y z bx by_ bz : Int) (w : World) (k1 : -9000000 ≤ x + bx ∧ x + bx ≤ 9000000) (k2 : -9000000 ≤ y + by_ ∧ y + by_ ≤ 9000000) (k3 : -9000000 ≤ z + bz ∧ z + bz ≤ 9000000) :
    Calls Tryz.prog 77 #[.agg #[.int .i64 x, .int .i64 y, .int .i64 z], .agg #[.int .i64 bx, .int .i64 by_, .int .i64 bz]] w fun e w' => e = .returned (.agg #[.int .i64 (x + bx), .int .i64 (y + by_), .int .i64 (z + bz)]) ∧ Below w.heap.size w w' := by
  have w1 := wrapS k1
  have w2 := wrapS k2
  have w3 := wrapS k3
  clear k1 k2 k3
  have hB : Below w.heap.size w ((w.alloc (.cells #[.int .i64 x, .int .i64 y, .int .i64 z] 24)).alloc (.cells #[.int .i64 bx, .int .i64 by_, .int .i64 bz] 24)) := ((Below.refl _ _).alloc (Nat.le_refl _) _).alloc (by simp) _
  go_enter Tryz.func77, Tryz.ntmps77
  go_wp2
  refine bodyPost_ret (results_cell_row rfl _ _ _ 24 #[.int .i64 (x + bx), .int .i64 (y + by_), .int .i64 (z + bz)] (0, 0) _ rfl ?_ Tryz.underlying24 rfl (by kernel_rfl)) rfl ?_
  · have := heap_alloc_new ((w.alloc (.cells #[.int .i64 x, .int .i64 y, .int .i64 z] 24)).alloc (.cells #[.int .i64 bx, .int .i64 by_, .int .i64 bz] 24)) (.cells #[.int .i64 (x + bx), .int .i64 (y + by_), .int .i64 (z + bz)] 24)
    have e : ((w.alloc (.cells #[.int .i64 x, .int .i64 y, .int .i64 z] 24)).alloc (.cells #[.int .i64 bx, .int .i64 by_, .int .i64 bz] 24)).heap.size = w.heap.size + 1 + 1 := by simp
    rw [e] at this
    exact this
  · exact ⟨rfl, hB.alloc (by simp; omega) _⟩
def shiftC (b c : Cel) : Cel := (c.1 + b.1, c.2.1 + b.2.1, c.2.2 + b.2.2)
/-- append of a few cells in a region that draws its order. -/
theorem step_append_sl {w : World} {ops : Array Oper} {o : Oper} {a : Act} {K : Act → World → Prop} {Q : Exit → Act → World → Prop} {E : Prop} (hgd : o.guard = none) (s x : Operand)
    (ho : o.op = .call { callee := .builtin .append, args := #[s, x], argTypes := #[22, 22] }) (B : Nat) (hB : B ≤ w.heap.size) (v : Value) (l : List Cel) (hs : a.eval s = v) (hown : Own w B v l)
    (vx : Value) (m : List Cel) (hx : a.eval x = vx) (hm : Sl w vx m) (h0 : m ≠ []) (hn : l.length + m.length ≤ 1000000)
    (h : ∀ v' w', Own w' B v' (l ++ m) → Below B w w' → K (a.put o.dst v') w') : if Region.wanted o (yielded ops a.tmps) = true then Oper.wp Tryz.prog o a w K Q else E := by
  obtain ⟨j0, hj, hy0, hy1, hy2⟩ := info_parts (P := Tryz.prog) (e := 24) (z := .agg #[.int .i64 0, .int .i64 0, .int .i64 0]) (size := 3) (bytes := 24) (by kernel_rfl)
  have hp := List.length_pos_iff.2 h0
  rcases hm with ⟨rfl, rfl⟩ | ⟨ad, cap, rfl, hm⟩
  · exact absurd rfl h0
  · refine step_append_lies w hgd s x _ ho B 24 j0 _ 3 24 Tryz.underlying22 hj hy0 hy1 hy2 rfl (by decide) v l.length (flatC l) hs hown ad m.length cap (flatC m) hx (flatC_len3 m) (sl_cells hm) flatC_one3 hp (by unfold maxLen; omega) (by omega) hB _ rfl fun g cap w' h1 h2 _ _ => ?_
    exact h _ w' (own_of h1 List.length_append.symm (flatC_append l m).symm) ((Below.refl B w).grown h2 hB fun k hk => (hown.lt k hk).1)
theorem refShift_ok (l : List Cel) (v : Value) (b : Cel) (w : World) (hl : Sl w v l) (hn : l.length ≤ 400000)
    (hbig : ∀ c ∈ l, (-9000000 ≤ c.1 + b.1 ∧ c.1 + b.1 ≤ 9000000) ∧ (-9000000 ≤ c.2.1 + b.2.1 ∧ c.2.1 + b.2.1 ≤ 9000000) ∧ (-9000000 ≤ c.2.2 + b.2.2 ∧ c.2.2 + b.2.2 ≤ 9000000)) :
    Calls Tryz.prog 18 #[v, .agg #[.int .i64 b.1, .int .i64 b.2.1, .int .i64 b.2.2]] w fun e w' => ∃ v', e = .returned v' ∧ Own w' w.heap.size v' (l.map (shiftC b)) ∧ Below w.heap.size w w' := by
  obtain ⟨bx, by_, bz⟩ := b
  dsimp only at hbig ⊢
  obtain ⟨W0, hW⟩ : ∃ W0, W0 = w.alloc (.cells #[.int .i64 bx, .int .i64 by_, .int .i64 bz] 24) := ⟨_, rfl⟩
  have d0 : W0.cell? ⟨w.heap.size, 0, none⟩ = some (.int .i64 bx) := by subst hW; go_simp
  have d1 : W0.cell? ⟨w.heap.size, 1, none⟩ = some (.int .i64 by_) := by subst hW; go_simp
  have d2 : W0.cell? ⟨w.heap.size, 2, none⟩ = some (.int .i64 bz) := by subst hW; go_simp
  have hK0 : Below w.heap.size w W0 := by subst hW; exact (Below.refl _ _).alloc (Nat.le_refl _) _
  have hlt : w.heap.size < W0.heap.size := by subst hW; simp
  replace hl := hl.below hK0
  obtain ⟨A, cap, rfl⟩ := hl.form
  go_enter Tryz.func18, Tryz.ntmps18
  go_wp2
  rw [← hW]
  clear hW
  go_loopw [5, 6] (fun s i wr => ∃ k : Nat, k ≤ l.length ∧ i = .int .i64 k ∧ Own wr W0.heap.size s ((l.take k).map (shiftC (bx, by_, bz))) ∧ Below W0.heap.size W0 wr) (fun _ i _ => l.length - (intOf i).toNat)
  case atStart => exact ⟨0, Nat.zero_le _, rfl, Own.nil _ _, Below.refl _ _⟩
  case round =>
    obtain ⟨k, hk, rfl, hown, hBel⟩ := hrel
    rename World => w1
    rcases Nat.lt_or_eq_of_le hk with hkn | rfl
    · obtain ⟨bk, o, x, y, z, rfl, -, hbk, hc, r0, r1, r2⟩ := hl.cells hkn
      obtain ⟨k1, k2, k3⟩ := hbig _ (List.mem_of_getElem? hc)
      dsimp only at k1 k2 k3
      have hft : (l.take (k + 1)).map (shiftC (bx, by_, bz)) = (l.take k).map (shiftC (bx, by_, bz)) ++ [(x + bx, y + by_, z + bz)] := by
        rw [List.take_add_one, hc]; simp [shiftC]
      have hlen : ((l.take k).map (shiftC (bx, by_, bz))).length ≤ 400000 := by rw [List.length_map, List.length_take]; omega
      have hmv := fun W => refMoved_ok x y z bx by_ bz W k1 k2 k3
      have Hft := Lib.hid hft
      have hsz := hBel.size
      have kS : ∀ w', Below W0.heap.size w1 w' → (w'.cell? ⟨bk, o + k * 3, none⟩ = some (.int .i64 x) ∧ w'.cell? ⟨bk, o + k * 3 + 1, none⟩ = some (.int .i64 y) ∧ w'.cell? ⟨bk, o + k * 3 + 2, none⟩ = some (.int .i64 z) ∧ w'.cell? ⟨w.heap.size, 0, none⟩ = some (.int .i64 bx) ∧ w'.cell? ⟨w.heap.size, 1, none⟩ = some (.int .i64 by_) ∧ w'.cell? ⟨w.heap.size, 2, none⟩ = some (.int .i64 bz)) := fun w' h => ⟨((hBel.trans h).cell (p := ⟨bk, _, none⟩) hbk).trans r0, ((hBel.trans h).cell (p := ⟨bk, _, none⟩) hbk).trans r1, ((hBel.trans h).cell (p := ⟨bk, _, none⟩) hbk).trans r2, ((hBel.trans h).cell (p := ⟨w.heap.size, 0, none⟩) hlt).trans d0, ((hBel.trans h).cell (p := ⟨w.heap.size, 1, none⟩) hlt).trans d1, ((hBel.trans h).cell (p := ⟨w.heap.size, 2, none⟩) hlt).trans d2⟩
      have hS1 := kS w1.drew (Below.refl _ _).drew
      have hX1 : Below w1.heap.size w1 w1.drew := (Below.refl _ _).drew
      clear hl hbig hc hft k1 k2 k3 d0 d1 d2 r0 r1 r2
      have hi0 : (0 : Int) ≤ k := by omega
      have hi1 : (k : Int) < l.length := by omega
      go_wp2
      go_region_held3 (fun w' => w'.cell? ⟨bk, o + k * 3, none⟩ = some (.int .i64 x) ∧ w'.cell? ⟨bk, o + k * 3 + 1, none⟩ = some (.int .i64 y) ∧ w'.cell? ⟨bk, o + k * 3 + 2, none⟩ = some (.int .i64 z) ∧ w'.cell? ⟨w.heap.size, 0, none⟩ = some (.int .i64 bx) ∧ w'.cell? ⟨w.heap.size, 1, none⟩ = some (.int .i64 by_) ∧ w'.cell? ⟨w.heap.size, 2, none⟩ = some (.int .i64 bz)) (first | exact hS1 | exact hS2 | exact hS3 | exact hS4) (first
        | (go_at_call 77; refine (hmv _).mono ?_; rintro e w2 ⟨rfl, hB2⟩; have hB12 := hX1.trans hB2; have hS2 := kS w2 (hB12.mono hsz); have hownA := (hown.keep hB12).alloc (.cells #[.int .i64 (x + bx), .int .i64 (y + by_), .int .i64 (z + bz)] 24); have hBa : Below W0.heap.size w1 (w2.alloc (.cells #[.int .i64 (x + bx), .int .i64 (y + by_), .int .i64 (z + bz)] 24)) := (hB12.mono hsz).alloc (Nat.le_trans hsz hB12.size) _; have hS3 := kS _ hBa)
        | (refine step_append_sl rfl _ _ rfl W0.heap.size (Nat.le_trans hsz hBa.size) _ _ rfl hownA _ [(x + bx, y + by_, z + bz)] rfl (.inr ⟨_, 1, rfl, row_one w2 (x + bx) (y + by_) (z + bz)⟩) (by simp) (by simp at hlen ⊢; omega) ?_; intro v1 w3 hown3 hB3; have hBb := hBa.trans hB3; have hS4 := kS w3 hBb))
      rename_i hHeld
      clear hHeld hS1 hS2 hS3 hS4 kS
      go_wp2
      exact ⟨⟨k + 1, hkn, rfl, by rw [Hft.out]; exact hown3, hBel.trans hBb⟩, by simp [intOf]; omega⟩
    · rw [List.take_length] at hown
      clear hl hbig
      go_wp2
      go_ret
      exact ⟨_, rfl, hown.lower hK0.size, hK0.trans (hBel.mono hK0.size)⟩
end Go.Proofs
