import Derived.Test.YtllameiilljelaaWaxSum
import Derived.Test.YtllameiilljelaaAmE
import Derived.Test.YtllameiilljelaaTurn1b
import Derived.Deep.RegionHeld3
section
namespace Go.Proofs
open Go.AM Go.RowKit
theorem wax_names : NamesOk Try.prog := namesOk_of (by kernel_rfl)
theorem wax_mixed : Try.prog.follows .mixedOrders = true := by kernel_rfl
noncomputable def waxI (n : Int) : Value := .int .i64 n
noncomputable def ringL : List Value := [-1, -1, 0, -1, 0, 0, -1, 1, 0, 0, -1, 0, 0, 1, 0, 1, -1, 0, 1, 0, 0, 1, 1, 0].map waxI
noncomputable def blockL : List Value := [-1, -1, 0, -1, 0, 0, -1, 1, 0, 0, -1, 0, 0, 0, 0, 0, 1, 0, 1, -1, 0, 1, 0, 0, 1, 1, 0].map waxI
/-- What is known of a call with a row that is only read. -/
theorem memo_of {F : FuncId} {l : List Value} {n : Nat} {r : Value} {S S' : Sum} {k : Nat} {T : TypeId} (hS : SumOk Try.prog S) (hS' : SumOk Try.prog S')
    (h0 : 0 < n) (hl : l.all flat = true) (hr : flat r = true) (e : (callF Try.prog S' k F [sRow n] (hRow l T)).map (·.1) = some r) : SumOk Try.prog (memo F l n r S) := by
  rw [callF_eq] at e
  obtain ⟨⟨v, h'⟩, he, hv⟩ := Option.map_eq_some_iff.1 e
  simp only at hv
  subst hv
  exact memo_ok hS (callS_call wax_names wax_mixed hS' he).1 h0 hl hr fun w b o c hn hb hc => row_call wax_names wax_mixed hS' he hr hl hn hb hc
end Go.Proofs
end

section
namespace Go.Proofs
open Go.AM Go.RowKit
set_option maxRecDepth 1000000
def turnT : List (Nat × Nat × Nat) := [(0, 2, 4), (0, 3, 5), (0, 4, 3), (0, 5, 2), (1, 2, 5), (1, 3, 4), (1, 4, 2), (1, 5, 3), (2, 0, 5), (2, 1, 4), (2, 4, 0), (2, 5, 1), (3, 0, 4), (3, 1, 5), (3, 4, 1), (3, 5, 0), (4, 0, 2), (4, 1, 3), (4, 2, 1), (4, 3, 0), (5, 0, 3), (5, 1, 2), (5, 2, 0), (5, 3, 1)]
noncomputable def turnsV : Value := .agg #[.int .i64 0, .int .i64 2, .int .i64 4, .int .i64 0, .int .i64 3, .int .i64 5, .int .i64 0, .int .i64 4, .int .i64 3, .int .i64 0, .int .i64 5, .int .i64 2, .int .i64 1, .int .i64 2, .int .i64 5, .int .i64 1, .int .i64 3, .int .i64 4, .int .i64 1, .int .i64 4, .int .i64 2, .int .i64 1, .int .i64 5, .int .i64 3, .int .i64 2, .int .i64 0, .int .i64 5, .int .i64 2, .int .i64 1, .int .i64 4, .int .i64 2, .int .i64 4, .int .i64 0, .int .i64 2, .int .i64 5, .int .i64 1, .int .i64 3, .int .i64 0, .int .i64 4, .int .i64 3, .int .i64 1, .int .i64 5, .int .i64 3, .int .i64 4, .int .i64 1, .int .i64 3, .int .i64 5, .int .i64 0, .int .i64 4, .int .i64 0, .int .i64 2, .int .i64 4, .int .i64 1, .int .i64 3, .int .i64 4, .int .i64 2, .int .i64 1, .int .i64 4, .int .i64 3, .int .i64 0, .int .i64 5, .int .i64 0, .int .i64 3, .int .i64 5, .int .i64 1, .int .i64 2, .int .i64 5, .int .i64 2, .int .i64 0, .int .i64 5, .int .i64 3, .int .i64 1]
theorem turns_runs : (callF Try.prog noSum 100000 39 [] h0).map (·.1) = some turnsV := by kernel_rfl
theorem turns_ok (w : World) : Calls Try.prog 39 #[] w fun e w' => e = .returned turnsV ∧ Below w.heap.size w w' := by
  have e := turns_runs
  rw [callF_eq] at e
  obtain ⟨⟨v, h'⟩, he, hv⟩ := Option.map_eq_some_iff.1 e
  simp only at hv
  subst hv
  refine (closed_callS wax_names wax_mixed noSum_ok (w := w) he rfl).mono ?_
  rintro e w' ⟨v', θ', rfl, hv, _, hb⟩
  exact ⟨by rw [flat_eq rfl hv], hb⟩
end Go.Proofs
end

section
namespace Go.Proofs
open Go.RowKit
set_option maxHeartbeats 8000000
set_option maxRecDepth 1000000
def turnA (n : Nat) : Nat × Nat × Nat := turnT.getD n (0, 0, 0)
theorem turn_index (n : Nat) (hn : n < 24) (w : World) : (Instr.index 72 turnsV (.int .i64 n)).run Try.prog w = .ok (.agg #[.int .i64 (turnA n).1, .int .i64 (turnA n).2.1, .int .i64 (turnA n).2.2]) w := by
  obtain rfl | rfl | rfl | rfl | rfl | rfl | rfl | rfl | rfl | rfl | rfl | rfl | rfl | rfl | rfl | rfl | rfl | rfl | rfl | rfl | rfl | rfl | rfl | rfl : n = 0 ∨ n = 1 ∨ n = 2 ∨ n = 3 ∨ n = 4 ∨ n = 5 ∨ n = 6 ∨ n = 7 ∨ n = 8 ∨ n = 9 ∨ n = 10 ∨ n = 11 ∨ n = 12 ∨ n = 13 ∨ n = 14 ∨ n = 15 ∨ n = 16 ∨ n = 17 ∨ n = 18 ∨ n = 19 ∨ n = 20 ∨ n = 21 ∨ n = 22 ∨ n = 23 := by omega
  all_goals kernel_rfl
theorem turn_ok (l : List Cel) (blk off cap : Nat) (n : Nat) (hn24 : n < 24) (o : Cel) (w : World) (hl : RowAt w blk off l) (hb : blk < w.heap.size) (hn : l.length ≤ 4096) (hfit : ∀ c ∈ l, vecI c 1000 = 0) (hasc : Asc l) (ho : vecI o 1000 = 0)
    (h6 : (turnA n).1 < 6 ∧ (turnA n).2.1 < 6 ∧ (turnA n).2.2 < 6) (hob : (-1000 ≤ o.1 ∧ o.1 ≤ 1000) ∧ (-1000 ≤ o.2.1 ∧ o.2.1 ≤ 1000) ∧ (-1000 ≤ o.2.2 ∧ o.2.2 ≤ 1000))
    (hfit2 : ∀ c ∈ l.map (turnC (turnA n).1 (turnA n).2.1 (turnA n).2.2 o), vecI c 1000 = 0) (hnd : (l.map (turnC (turnA n).1 (turnA n).2.1 (turnA n).2.2 o)).Nodup) (hbig : ∀ c ∈ l, (-1000 ≤ c.1 ∧ c.1 ≤ 1000) ∧ (-1000 ≤ c.2.1 ∧ c.2.1 ≤ 1000) ∧ (-1000 ≤ c.2.2 ∧ c.2.2 ≤ 1000)) :
    Calls Try.prog 15 #[.slice (some ⟨blk, off, none⟩) l.length cap, .int .i64 n, .agg #[.int .i64 o.1, .int .i64 o.2.1, .int .i64 o.2.2]] w fun e w' => ∃ B, e = .returned (.tuple #[.slice (some ⟨B, 0, none⟩) l.length l.length, .int .i64 0]) ∧ w.heap.size ≤ B ∧ Filled w' B l.length 26 (sortC (l.map (turnC (turnA n).1 (turnA n).2.1 (turnA n).2.2 o))) ∧ Below w.heap.size w w' := by
  obtain ⟨ox, oy, oz⟩ := o
  have hix := fun W => turn_index n hn24 W
  generalize turnA n = tn at hix h6 hfit2 hnd ⊢
  obtain ⟨a, b, c⟩ := tn
  dsimp only at hix h6 hfit2 hnd hob ⊢
  have hmf : ∀ (fn : Fn) (first cap : Array Value) (w : World), (Instr.makeFunc fn first cap).run Try.prog w = .ok (.func fn first cap) w := fun _ _ _ _ => rfl
  have hwj : withinI n 0 23 = 0 := by unfold withinI; rw [if_neg (by omega)]
  have hcc := fun W => checkCell_ok ox oy oz W
  rw [ho] at hcc
  obtain ⟨W, hW⟩ : ∃ W, W = (w.alloc (.cells #[.int .i64 ox, .int .i64 oy, .int .i64 oz] 26)) := ⟨_, rfl⟩
  have b0 : W.cell? ⟨w.heap.size, 0, none⟩ = some (.int .i64 ox) := by subst hW; go_simp
  have b1 : W.cell? ⟨w.heap.size, 1, none⟩ = some (.int .i64 oy) := by subst hW; go_simp
  have b2 : W.cell? ⟨w.heap.size, 2, none⟩ = some (.int .i64 oz) := by subst hW; go_simp
  have hBW : Below w.heap.size w W := by subst hW; exact (Below.refl _ _).alloc (Nat.le_refl _) _
  have hs : w.heap.size < W.heap.size := by subst hW; simp
  have hlW : RowAt W blk off l := fun i c h => by
    obtain ⟨r0, r1, r2⟩ := hl i c h
    exact ⟨by rw [hBW.cell hb]; exact r0, by rw [hBW.cell hb]; exact r1, by rw [hBW.cell hb]; exact r2⟩
  have hck := gridCheck_ok l blk off cap W.drew hlW (Nat.lt_trans hb hs) hn hfit hasc
  have hmov : ∀ W6, Below W.heap.size W W6 → Calls Try.prog 30 #[.slice (some ⟨blk, off, none⟩) l.length cap, .func (.func 40) #[] #[.pointer (some ⟨W6.heap.size, 0, none⟩), .pointer (some ⟨w.heap.size, 0, none⟩)]] (W6.alloc (.cells #[.int .i64 a, .int .i64 b, .int .i64 c] 71)) fun e w' => ∃ B, e = .returned (.tuple #[.slice (some ⟨B, 0, none⟩) l.length l.length, .int .i64 0]) ∧ w.heap.size ≤ B ∧ Filled w' B l.length 26 (sortC (l.map (turnC a b c (ox, oy, oz)))) ∧ Below w.heap.size w w' := fun W6 h6' => by
    obtain ⟨W5, hW5⟩ : ∃ W5, W5 = (W6.alloc (.cells #[.int .i64 a, .int .i64 b, .int .i64 c] 71)) := ⟨_, rfl⟩
    have p0 : W5.cell? ⟨W6.heap.size, 0, none⟩ = some (.int .i64 a) := by subst hW5; go_simp
    have p1 : W5.cell? ⟨W6.heap.size, 1, none⟩ = some (.int .i64 b) := by subst hW5; go_simp
    have p2 : W5.cell? ⟨W6.heap.size, 2, none⟩ = some (.int .i64 c) := by subst hW5; go_simp
    have hp5 : W6.heap.size < W5.heap.size := by subst hW5; simp
    have h5 : Below W.heap.size W W5 := by subst hW5; exact h6'.alloc h6'.size _
    rw [← hW5]
    clear hW5
    have h5' : Below w.heap.size w W5 := hBW.trans (h5.mono hBW.size)
    refine (moved_turn l blk off cap W5 (fun i c h => ?_) (Nat.lt_of_lt_of_le hb h5'.size) hn W6.heap.size w.heap.size (turnC a b c (ox, oy, oz)) (fun d hd W7 h7 => ?_) hfit2 hnd).mono ?_
    · obtain ⟨r0, r1, r2⟩ := hl i c h
      exact ⟨by rw [h5'.cell hb]; exact r0, by rw [h5'.cell hb]; exact r1, by rw [h5'.cell hb]; exact r2⟩
    · obtain ⟨k1, k2, k3⟩ := hbig d hd
      have hs5 : w.heap.size < W5.heap.size := Nat.lt_of_lt_of_le hs h5.size
      exact turn1_ok a b c h6.1 h6.2.1 h6.2.2 d.1 d.2.1 d.2.2 ox oy oz W6.heap.size w.heap.size W7 ((h7.cell (p := ⟨W6.heap.size, 0, none⟩) hp5).trans p0) ((h7.cell (p := ⟨W6.heap.size, 1, none⟩) hp5).trans p1) ((h7.cell (p := ⟨W6.heap.size, 2, none⟩) hp5).trans p2) (Nat.lt_of_lt_of_le hp5 h7.size)
        ((h7.cell (p := ⟨w.heap.size, 0, none⟩) hs5).trans ((h5.cell (p := ⟨w.heap.size, 0, none⟩) hs).trans b0)) ((h7.cell (p := ⟨w.heap.size, 1, none⟩) hs5).trans ((h5.cell (p := ⟨w.heap.size, 1, none⟩) hs).trans b1))
        ((h7.cell (p := ⟨w.heap.size, 2, none⟩) hs5).trans ((h5.cell (p := ⟨w.heap.size, 2, none⟩) hs).trans b2)) (Nat.lt_of_lt_of_le hs5 h7.size) k1 k2 k3 hob.1 hob.2.1 hob.2.2
    · rintro e w' ⟨B, rfl, hB, hF, hBe⟩
      exact ⟨B, rfl, Nat.le_trans h5'.size hB, hF, h5'.trans (hBe.mono h5'.size)⟩
  clear hfit2 hnd hbig hl hob h6 ho
  go_enter Try.func15, Try.ntmps15
  go_wp2
  rw [← hW]
  clear hW hfit hasc hlW hBW
  go_region_held3 (fun w' => w'.cell? ⟨w.heap.size, 0, none⟩ = some (.int .i64 ox) ∧ w'.cell? ⟨w.heap.size, 1, none⟩ = some (.int .i64 oy) ∧ w'.cell? ⟨w.heap.size, 2, none⟩ = some (.int .i64 oz)) (first | exact ⟨e0, e1, e2⟩ | exact ⟨c0, c1, c2⟩ | exact ⟨b0, b1, b2⟩ | go_keep) (first
    | (go_at_call 22; refine hck.mono ?_; rintro e w2 ⟨rfl, hB2⟩; have c0 : w2.cell? ⟨w.heap.size, 0, none⟩ = some (.int .i64 ox) := (hB2.cell (p := ⟨w.heap.size, 0, none⟩) hs).trans b0; have c1 : w2.cell? ⟨w.heap.size, 1, none⟩ = some (.int .i64 oy) := (hB2.cell (p := ⟨w.heap.size, 1, none⟩) hs).trans b1; have c2 : w2.cell? ⟨w.heap.size, 2, none⟩ = some (.int .i64 oz) := (hB2.cell (p := ⟨w.heap.size, 2, none⟩) hs).trans b2; have hs2 : w.heap.size < w2.heap.size := Nat.lt_of_lt_of_le hs hB2.size)
    | (go_at_call 37; refine (within_ok _ _ _ _).mono ?_; rintro e w3 ⟨rfl, hw3⟩; subst hw3; try simp only [hwj])
    | (go_at_call 38; refine (hcc _).mono ?_; rintro e w4 ⟨rfl, hB4⟩; have e0 := (hB4.cell (p := ⟨w.heap.size, 0, none⟩) hs2).trans c0; have e1 := (hB4.cell (p := ⟨w.heap.size, 1, none⟩) hs2).trans c1; have e2 := (hB4.cell (p := ⟨w.heap.size, 2, none⟩) hs2).trans c2)
    | (go_at_call 28; refine (first3_ok 0 0 0 _ _ _ ?_ ?_ ?_).mono ?_; (go_simp); (go_simp); (go_simp); rintro e w5 ⟨rfl, hw5⟩; subst hw5))
  have hWe : Below W.heap.size W w3 := ⟨hB2.os, hB2.tape, hB2.output, hB2.size, hB2.block⟩
  have hWg := hWe.trans (hB4.mono hWe.size)
  have hWf := hWg.alloc hWg.size (.cells #[.int .i64 0, .int .i64 0, .int .i64 0] 30)
  have hor : orI 0 0 0 = 0 := by decide
  clear hB2 hB4 hWe hWg hck hwj hcc b0 b1 b2 c0 c1 c2 e0 e1 e2 hs2
  go_wp2_with (first
    | (go_at_call 39; refine (turns_ok _).mono ?_; rintro e w9 ⟨rfl, hB9⟩)
    | (go_at_call 30; refine (hmov w9 (hWf.trans (hB9.mono hWf.size))).mono ?_; rintro e w7 ⟨B, rfl, hB7, hF7, hB8⟩))
  go_ret2
  exact ⟨B, rfl, hB7, hF7, hB8⟩
end Go.Proofs
end
