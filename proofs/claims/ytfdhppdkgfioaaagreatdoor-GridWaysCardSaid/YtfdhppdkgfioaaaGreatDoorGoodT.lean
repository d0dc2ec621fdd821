import Derived.Test.YtfdhppdkgfioaaaGreatDoorTurns
import Derived.Deep.RegionHeld3
section
namespace Go.Proofs
open Go.RowKit
set_option maxHeartbeats 8000000
set_option maxRecDepth 1000000
def turnA (n : Nat) : Nat × Nat × Nat := turnT.getD n (0, 0, 0)
theorem turn_index (n : Nat) (hn : n < 24) (w : World) : (Instr.index 149 turnsV (.int .i64 n)).run Tryz.prog w = .ok (.agg #[.int .i64 (turnA n).1, .int .i64 (turnA n).2.1, .int .i64 (turnA n).2.2]) w := by
  obtain rfl | rfl | rfl | rfl | rfl | rfl | rfl | rfl | rfl | rfl | rfl | rfl | rfl | rfl | rfl | rfl | rfl | rfl | rfl | rfl | rfl | rfl | rfl | rfl : n = 0 ∨ n = 1 ∨ n = 2 ∨ n = 3 ∨ n = 4 ∨ n = 5 ∨ n = 6 ∨ n = 7 ∨ n = 8 ∨ n = 9 ∨ n = 10 ∨ n = 11 ∨ n = 12 ∨ n = 13 ∨ n = 14 ∨ n = 15 ∨ n = 16 ∨ n = 17 ∨ n = 18 ∨ n = 19 ∨ n = 20 ∨ n = 21 ∨ n = 22 ∨ n = 23 := by omega
  all_goals kernel_rfl
theorem turn_ok (l : List Cel) (blk off cap : Nat) (n : Nat) (hn24 : n < 24) (o : Cel) (w : World) (hl : RowAt w blk off l) (hb : blk < w.heap.size) (hn : l.length ≤ 4096) (hfit : ∀ c ∈ l, vecI c 1000 = 0) (hasc : Asc l) (ho : vecI o 1000 = 0)
    (h6 : (turnA n).1 < 6 ∧ (turnA n).2.1 < 6 ∧ (turnA n).2.2 < 6) (hob : (-1000 ≤ o.1 ∧ o.1 ≤ 1000) ∧ (-1000 ≤ o.2.1 ∧ o.2.1 ≤ 1000) ∧ (-1000 ≤ o.2.2 ∧ o.2.2 ≤ 1000))
    (hfit2 : ∀ c ∈ l.map (turnC (turnA n).1 (turnA n).2.1 (turnA n).2.2 o), vecI c 1000 = 0) (hnd : (l.map (turnC (turnA n).1 (turnA n).2.1 (turnA n).2.2 o)).Nodup) (hbig : ∀ c ∈ l, (-1000 ≤ c.1 ∧ c.1 ≤ 1000) ∧ (-1000 ≤ c.2.1 ∧ c.2.1 ≤ 1000) ∧ (-1000 ≤ c.2.2 ∧ c.2.2 ≤ 1000)) :
    Calls Tryz.prog 37 #[.slice (some ⟨blk, off, none⟩) l.length cap, .int .i64 n, .agg #[.int .i64 o.1, .int .i64 o.2.1, .int .i64 o.2.2]] w fun e w' => ∃ B, e = .returned (.tuple #[.slice (some ⟨B, 0, none⟩) l.length l.length, .int .i64 0]) ∧ w.heap.size ≤ B ∧ Filled w' B l.length 24 (sortC (l.map (turnC (turnA n).1 (turnA n).2.1 (turnA n).2.2 o))) ∧ Below w.heap.size w w' := by
  obtain ⟨ox, oy, oz⟩ := o
  have hix := fun W => turn_index n hn24 W
  generalize turnA n = tn at hix h6 hfit2 hnd ⊢
  obtain ⟨a, b, c⟩ := tn
  dsimp only at hix h6 hfit2 hnd hob ⊢
  have hmf : ∀ (fn : Fn) (first cap : Array Value) (w : World), (Instr.makeFunc fn first cap).run Tryz.prog w = .ok (.func fn first cap) w := fun _ _ _ _ => rfl
  have hwj : withinI n 0 23 = 0 := by unfold withinI; rw [if_neg (by omega)]
  have hcc := fun W => checkCell_ok ox oy oz W
  rw [ho] at hcc
  obtain ⟨W, hW⟩ : ∃ W, W = (w.alloc (.cells #[.int .i64 ox, .int .i64 oy, .int .i64 oz] 24)) := ⟨_, rfl⟩
  have b0 : W.cell? ⟨w.heap.size, 0, none⟩ = some (.int .i64 ox) := by subst hW; go_simp
  have b1 : W.cell? ⟨w.heap.size, 1, none⟩ = some (.int .i64 oy) := by subst hW; go_simp
  have b2 : W.cell? ⟨w.heap.size, 2, none⟩ = some (.int .i64 oz) := by subst hW; go_simp
  have hBW : Below w.heap.size w W := by subst hW; exact (Below.refl _ _).alloc (Nat.le_refl _) _
  have hs : w.heap.size < W.heap.size := by subst hW; simp
  have hlW : RowAt W blk off l := fun i c h => by
    obtain ⟨r0, r1, r2⟩ := hl i c h
    exact ⟨by rw [hBW.cell hb]; exact r0, by rw [hBW.cell hb]; exact r1, by rw [hBW.cell hb]; exact r2⟩
  have hck := gridCheck_ok l blk off cap W.drew hlW (Nat.lt_trans hb hs) hn hfit hasc
  have hmov : ∀ W6, Below W.heap.size W W6 → Calls Tryz.prog 93 #[.slice (some ⟨blk, off, none⟩) l.length cap, .func (.func 96) #[] #[.pointer (some ⟨W6.heap.size, 0, none⟩), .pointer (some ⟨w.heap.size, 0, none⟩)]] (W6.alloc (.cells #[.int .i64 a, .int .i64 b, .int .i64 c] 148)) fun e w' => ∃ B, e = .returned (.tuple #[.slice (some ⟨B, 0, none⟩) l.length l.length, .int .i64 0]) ∧ w.heap.size ≤ B ∧ Filled w' B l.length 24 (sortC (l.map (turnC a b c (ox, oy, oz)))) ∧ Below w.heap.size w w' := fun W6 h6' => by
    obtain ⟨W5, hW5⟩ : ∃ W5, W5 = (W6.alloc (.cells #[.int .i64 a, .int .i64 b, .int .i64 c] 148)) := ⟨_, rfl⟩
    have p0 : W5.cell? ⟨W6.heap.size, 0, none⟩ = some (.int .i64 a) := by subst hW5; go_simp
    have p1 : W5.cell? ⟨W6.heap.size, 1, none⟩ = some (.int .i64 b) := by subst hW5; go_simp
    have p2 : W5.cell? ⟨W6.heap.size, 2, none⟩ = some (.int .i64 c) := by subst hW5; go_simp
    have hp5 : W6.heap.size < W5.heap.size := by subst hW5; simp
    have h5 : Below W.heap.size W W5 := by subst hW5; exact h6'.alloc h6'.size _
    rw [← hW5]
    clear hW5
    have h5' : Below w.heap.size w W5 := hBW.trans (h5.mono hBW.size)
    refine (moved_turn l blk off cap W5 (fun i c h => ?_) (Nat.lt_of_lt_of_le hb h5'.size) hn W6.heap.size w.heap.size (turnC a b c (ox, oy, oz)) (fun d hd W7 h7 => ?_) hfit2 hnd).mono ?_
    · obtain ⟨r0, r1, r2⟩ := hl i c h
      exact ⟨by rw [h5'.cell hb]; exact r0, by rw [h5'.cell hb]; exact r1, by rw [h5'.cell hb]; exact r2⟩
    · obtain ⟨k1, k2, k3⟩ := hbig d hd
      have hs5 : w.heap.size < W5.heap.size := Nat.lt_of_lt_of_le hs h5.size
      exact turn1_ok a b c h6.1 h6.2.1 h6.2.2 d.1 d.2.1 d.2.2 ox oy oz W6.heap.size w.heap.size W7 ((h7.cell (p := ⟨W6.heap.size, 0, none⟩) hp5).trans p0) ((h7.cell (p := ⟨W6.heap.size, 1, none⟩) hp5).trans p1) ((h7.cell (p := ⟨W6.heap.size, 2, none⟩) hp5).trans p2) (Nat.lt_of_lt_of_le hp5 h7.size)
        ((h7.cell (p := ⟨w.heap.size, 0, none⟩) hs5).trans ((h5.cell (p := ⟨w.heap.size, 0, none⟩) hs).trans b0)) ((h7.cell (p := ⟨w.heap.size, 1, none⟩) hs5).trans ((h5.cell (p := ⟨w.heap.size, 1, none⟩) hs).trans b1))
        ((h7.cell (p := ⟨w.heap.size, 2, none⟩) hs5).trans ((h5.cell (p := ⟨w.heap.size, 2, none⟩) hs).trans b2)) (Nat.lt_of_lt_of_le hs5 h7.size) k1 k2 k3 hob.1 hob.2.1 hob.2.2
    · rintro e w' ⟨B, rfl, hB, hF, hBe⟩
      exact ⟨B, rfl, Nat.le_trans h5'.size hB, hF, h5'.trans (hBe.mono h5'.size)⟩
  clear hfit2 hnd hbig hl hob h6 ho
  go_enter Tryz.func37, Tryz.ntmps37
  go_wp2
  rw [← hW]
  clear hW hfit hasc hlW hBW
  go_region_held3 (fun w' => w'.cell? ⟨w.heap.size, 0, none⟩ = some (.int .i64 ox) ∧ w'.cell? ⟨w.heap.size, 1, none⟩ = some (.int .i64 oy) ∧ w'.cell? ⟨w.heap.size, 2, none⟩ = some (.int .i64 oz)) (first | exact ⟨e0, e1, e2⟩ | exact ⟨c0, c1, c2⟩ | exact ⟨b0, b1, b2⟩ | go_keep) (first
    | (go_at_call 49; refine hck.mono ?_; rintro e w2 ⟨rfl, hB2⟩; have c0 : w2.cell? ⟨w.heap.size, 0, none⟩ = some (.int .i64 ox) := (hB2.cell (p := ⟨w.heap.size, 0, none⟩) hs).trans b0; have c1 : w2.cell? ⟨w.heap.size, 1, none⟩ = some (.int .i64 oy) := (hB2.cell (p := ⟨w.heap.size, 1, none⟩) hs).trans b1; have c2 : w2.cell? ⟨w.heap.size, 2, none⟩ = some (.int .i64 oz) := (hB2.cell (p := ⟨w.heap.size, 2, none⟩) hs).trans b2; have hs2 : w.heap.size < w2.heap.size := Nat.lt_of_lt_of_le hs hB2.size)
    | (go_at_call 84; refine (within_ok _ _ _ _).mono ?_; rintro e w3 ⟨rfl, hw3⟩; subst hw3; try simp only [hwj])
    | (go_at_call 66; refine (hcc _).mono ?_; rintro e w4 ⟨rfl, hB4⟩; have e0 := (hB4.cell (p := ⟨w.heap.size, 0, none⟩) hs2).trans c0; have e1 := (hB4.cell (p := ⟨w.heap.size, 1, none⟩) hs2).trans c1; have e2 := (hB4.cell (p := ⟨w.heap.size, 2, none⟩) hs2).trans c2)
    | (go_at_call 53; refine (first3_ok 0 0 0 _ _ _ ?_ ?_ ?_).mono ?_; (go_simp); (go_simp); (go_simp); rintro e w5 ⟨rfl, hw5⟩; subst hw5))
  have hWe : Below W.heap.size W w3 := ⟨hB2.os, hB2.tape, hB2.output, hB2.size, hB2.block⟩
  have hWg := hWe.trans (hB4.mono hWe.size)
  have hWf := hWg.alloc hWg.size (.cells #[.int .i64 0, .int .i64 0, .int .i64 0] 28)
  have hor : orI 0 0 0 = 0 := by decide
  clear hB2 hB4 hWe hWg hck hwj hcc b0 b1 b2 c0 c1 c2 e0 e1 e2 hs2
  go_wp2_with (first
    | (go_at_call 95; refine (turns_ok _).mono ?_; rintro e w9 ⟨rfl, hB9⟩)
    | (go_at_call 93; refine (hmov w9 (hWf.trans (hB9.mono hWf.size))).mono ?_; rintro e w7 ⟨B, rfl, hB7, hF7, hB8⟩))
  go_ret2
  exact ⟨B, rfl, hB7, hF7, hB8⟩
end Go.Proofs
end

section
/- Sets of cells within a bound, and turned. -/
namespace Go.Proofs
open Go.RowKit Go.AM
set_option maxRecDepth 1000000
set_option maxHeartbeats 4000000
theorem asc_sortC {l : List Cel} (h : l.Nodup) : Asc (sortC l) := by
  intro i a b ha hb
  have hne := sortC_nodup h i a b ha hb
  have tr : ∀ a b c : Cel, (!ltC b a) = true → (!ltC c b) = true → (!ltC c a) = true := fun a b c h1 h2 => by
    simp only [Bool.not_eq_true'] at *
    exact swoC.ntrans c b a h2 h1
  have tot : ∀ a b : Cel, ((!ltC b a) || (!ltC a b)) = true := fun a b => by
    cases h1 : ltC b a with
    | false => rfl
    | true =>
      cases h2 : ltC a b with
      | false => rfl
      | true =>
        have := swoC.trans a b a h2 h1
        rw [swoC.irrefl] at this
        cases this
  have hp := List.pairwise_mergeSort (le := fun x y => !ltC y x) tr tot l
  obtain ⟨i1, e1⟩ := List.getElem?_eq_some_iff.1 ha
  obtain ⟨i2, e2⟩ := List.getElem?_eq_some_iff.1 hb
  have h1 := List.pairwise_iff_getElem.1 hp i (i+1) i1 i2 (Nat.lt_succ_self i)
  have e1' : (l.mergeSort fun x y => !ltC y x)[i] = a := e1
  have e2' : (l.mergeSort fun x y => !ltC y x)[i+1] = b := e2
  rw [e1', e2'] at h1
  have hba : ltC b a = false := by simpa using h1
  cases hab : ltC a b with
  | true => exact (cmp3_lt a b).2 hab
  | false => exact absurd (antiC a b hab hba) hne
theorem vec_of {c : Cel} {n : Int} (h : (-n ≤ c.1 ∧ c.1 ≤ n) ∧ (-n ≤ c.2.1 ∧ c.2.1 ≤ n) ∧ (-n ≤ c.2.2 ∧ c.2.2 ≤ n)) : vecI c n = 0 := by
  unfold vecI withinI
  rw [if_neg (by omega), if_neg (by omega), if_neg (by omega)]
  rfl
theorem mem_sortC {l : List Cel} {c : Cel} : c ∈ sortC l ↔ c ∈ l := (List.mergeSort_perm _ _).mem_iff
def turnB (k : Nat) (o : Cel) : Cel → Cel := turnC (turnA k).1 (turnA k).2.1 (turnA k).2.2 o
theorem nodup_map {f : Cel → Cel} (hf : ∀ p q, f p = f q → p = q) {l : List Cel} (h : l.Nodup) : (l.map f).Nodup :=
  List.Pairwise.map f (fun a b hab e => hab (hf a b e)) h
theorem nodup_sortC {l : List Cel} (h : l.Nodup) : (sortC l).Nodup := (List.mergeSort_perm _ _).nodup_iff.2 h
theorem turnB_inj {k : Nat} (hk : k < 24) (o p q : Cel) (h : turnB k o p = turnB k o q) : p = q := by
  obtain ⟨x, y, z⟩ := p
  obtain ⟨x', y', z'⟩ := q
  obtain ⟨a, b, c⟩ := o
  obtain rfl | rfl | rfl | rfl | rfl | rfl | rfl | rfl | rfl | rfl | rfl | rfl | rfl | rfl | rfl | rfl | rfl | rfl | rfl | rfl | rfl | rfl | rfl | rfl : k = 0 ∨ k = 1 ∨ k = 2 ∨ k = 3 ∨ k = 4 ∨ k = 5 ∨ k = 6 ∨ k = 7 ∨ k = 8 ∨ k = 9 ∨ k = 10 ∨ k = 11 ∨ k = 12 ∨ k = 13 ∨ k = 14 ∨ k = 15 ∨ k = 16 ∨ k = 17 ∨ k = 18 ∨ k = 19 ∨ k = 20 ∨ k = 21 ∨ k = 22 ∨ k = 23 := by omega
  all_goals simp [turnB, turnA, turnT, turnC, pickI] at h ⊢
  all_goals omega
theorem turnA_lt {k : Nat} (hk : k < 24) : (turnA k).1 < 6 ∧ (turnA k).2.1 < 6 ∧ (turnA k).2.2 < 6 := by
  have : ∀ k, k < 24 → (turnA k).1 < 6 ∧ (turnA k).2.1 < 6 ∧ (turnA k).2.2 < 6 := by decide
  exact this k hk
def Near (c : Cel) (b : Int) : Prop := (-b ≤ c.1 ∧ c.1 ≤ b) ∧ (-b ≤ c.2.1 ∧ c.2.1 ≤ b) ∧ (-b ≤ c.2.2 ∧ c.2.2 ≤ b)
/-- A set of cells within b of the middle. -/
structure Good (l : List Cel) (b : Int) : Prop where
  nd : l.Nodup
  asc : Asc l
  near : ∀ c ∈ l, Near c b
theorem Near.mono {c : Cel} {a b : Int} (h : Near c a) (hab : a ≤ b) : Near c b := by
  unfold Near at *
  omega
theorem Good.mono {l : List Cel} {a b : Int} (h : Good l a) (hab : a ≤ b) : Good l b := ⟨h.nd, h.asc, fun c hc => (h.near c hc).mono hab⟩
theorem Good.sort {l : List Cel} {b : Int} (h : l.Nodup) (hn : ∀ c ∈ l, Near c b) : Good (sortC l) b := ⟨nodup_sortC h, asc_sortC h, fun c hc => hn c (mem_sortC.1 hc)⟩
theorem Good.fit {l : List Cel} {b : Int} (h : Good l b) (hb : b ≤ 1000) : ∀ c ∈ l, vecI c 1000 = 0 := fun c hc => vec_of ((h.near c hc).mono hb)
theorem farB_near {c : Cel} {b : Int} (h : Near c b) (hb : b ≤ 1000) : farB c.1 1000 = false ∧ farB c.2.1 1000 = false ∧ farB c.2.2 1000 = false := by
  unfold Near at h
  unfold farB
  refine ⟨decide_eq_false ?_, decide_eq_false ?_, decide_eq_false ?_⟩ <;> omega
theorem turnB_near {k : Nat} {o p : Cel} {b d : Int} (hp : Near p b) (ho : Near o d) : Near (turnB k o p) (b + 2 * d) := by
  unfold Near at *
  have e : ∀ a, -(b + d) ≤ pickI (p.1 - o.1) (p.2.1 - o.2.1) (p.2.2 - o.2.2) a ∧ pickI (p.1 - o.1) (p.2.1 - o.2.1) (p.2.2 - o.2.2) a ≤ b + d := pickI_le (by omega) (by omega) (by omega)
  have e1 := e (turnA k).1
  have e2 := e (turnA k).2.1
  have e3 := e (turnA k).2.2
  unfold turnB turnC
  dsimp only
  omega
theorem near_map {f : Cel → Cel} {l : List Cel} {b : Int} (h : ∀ c ∈ l, Near (f c) b) : ∀ c ∈ l.map f, Near c b := fun c hc => by
  obtain ⟨p, hp, rfl⟩ := List.mem_map.1 hc
  exact h p hp
theorem gTurn {l : List Cel} {b d : Int} (hg : Good l b) {o : Cel} (ho : Near o d) (hd : b + 2 * d ≤ 1000) (hb0 : b ≤ 1000) (hd0 : d ≤ 1000) (hn : l.length ≤ 4096) {k : Nat} (hk : k < 24) {blk off cap : Nat} {w : World} (hl : RowAt w blk off l) (hb : blk < w.heap.size) :
    Good (sortC (l.map (turnB k o))) (b + 2 * d) ∧ Calls Tryz.prog 37 #[.slice (some ⟨blk, off, none⟩) l.length cap, .int .i64 k, .agg #[.int .i64 o.1, .int .i64 o.2.1, .int .i64 o.2.2]] w fun e w' => ∃ B, e = .returned (.tuple #[.slice (some ⟨B, 0, none⟩) l.length l.length, .int .i64 0]) ∧ w.heap.size ≤ B ∧ Filled w' B l.length 24 (sortC (l.map (turnB k o))) ∧ Below w.heap.size w w' := by
  have hnd := nodup_map (turnB_inj hk o) hg.nd
  have hnr := near_map (f := turnB k o) fun c hc => turnB_near (k := k) (hg.near c hc) ho
  exact ⟨.sort hnd hnr, turn_ok l blk off cap k hk o w hl hb hn (hg.fit hb0) hg.asc (vec_of (ho.mono hd0)) (turnA_lt hk) (ho.mono hd0) (fun c hc => vec_of ((hnr c hc).mono hd)) hnd (fun c hc => (hg.near c hc).mono hb0)⟩
end Go.Proofs
end
