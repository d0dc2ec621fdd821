import Derived.Test.YtfdhppdkgfioaaaGreatDoorBoundR
import Derived.Test.YtfdhppdkgfioaaaGreatDoorGoodT
import Derived.Test.YtfdhppdkgfioaaaGreatDoorInsP
section
/- The reference's Size, Volume and FewCells. -/
namespace Go.Proofs
open Go.RowKit
set_option maxHeartbeats 8000000
set_option maxRecDepth 1000000
theorem badC_near {c : Cel} : badC c = false ↔ Near c 1000 := by
  unfold badC farB Near
  simp only [Bool.or_eq_false_iff, decide_eq_false_iff_not]
  omega
theorem up_asc {l : List Cel} (h : Up l) : Asc l := fun i a b ha hb => (cmp3_lt a b).2 (up_get h ha hb (Nat.lt_succ_self i))
/-- A set as the document has it: ascending, within the limits. -/
theorem chkI_zero {l : List Cel} : chkI l = 0 ↔ l.length ≤ 4096 ∧ (∀ c ∈ l, Near c 1000) ∧ Up l := by
  unfold chkI
  split
  · rename_i h
    constructor
    · intro e; cases e
    · intro e; omega
  · rename_i h
    constructor
    · intro e
      obtain ⟨h1, _, h3⟩ := chkFrom_zero l none e
      exact ⟨by omega, fun c hc => badC_near.1 (h1 c hc), h3⟩
    · rintro ⟨_, h2, h3⟩
      exact chkFrom_of l none (fun c hc => badC_near.2 (h2 c hc)) (fun q hq => by cases hq) h3
theorem up_good {l : List Cel} {b : Int} (h : Up l) (hn : ∀ c ∈ l, Near c b) : Good l b := ⟨up_nodup h, up_asc h, hn⟩
/-- How many cells a box has. -/
def sizeB (b : Cel × Cel) : Int := (b.2.1 - b.1.1 + 1) * (b.2.2.1 - b.1.2.1 + 1) * (b.2.2.2 - b.1.2.2 + 1)
theorem bnd_near {b : Int} : ∀ (l : List Cel) (B : Cel × Cel), (Near B.1 b ∧ Near B.2 b) → (∀ c ∈ l, Near c b) → Near (l.foldl bndS B).1 b ∧ Near (l.foldl bndS B).2 b
  | [], _, h, _ => h
  | c :: l, B, h, hl => by
    refine bnd_near l (bndS B c) ?_ (fun x hx => hl x (List.mem_cons_of_mem _ hx))
    have hc := hl c (List.mem_cons_self ..)
    unfold Near at *
    unfold bndS
    dsimp only
    omega
theorem size_ok (b : Cel × Cel) (h1 : Near b.1 1000) (h2 : Near b.2 1000) (w : World) :
    Calls Tryz.prog 65 #[boxV b] w fun e w' => e = .returned (.int .i64 (sizeB b)) ∧ Below w.heap.size w w' := by
  obtain ⟨⟨lx, ly, lz⟩, ⟨ux, uy, uz⟩⟩ := b
  unfold Near at h1 h2
  unfold boxV sizeB
  dsimp only at h1 h2 ⊢
  have a1 := wrapL (n := ux - lx) (by omega)
  have a2 := wrapL (n := ux - lx + 1) (by omega)
  have b1 := wrapL (n := uy - ly) (by omega)
  have b2 := wrapL (n := uy - ly + 1) (by omega)
  have c1 := wrapL (n := uz - lz) (by omega)
  have c2 := wrapL (n := uz - lz + 1) (by omega)
  have hp : ∀ p q : Int, -3000 ≤ p → p ≤ 3000 → -3000 ≤ q → q ≤ 3000 → -9000000 ≤ p * q ∧ p * q ≤ 9000000 := fun p q h1 h2 h3 h4 => by
    have e1 : p * q ≤ 3000 * 3000 := by
      have := Int.mul_nonneg (a := 3000 - p) (b := 3000 + q) (by omega) (by omega)
      have := Int.mul_nonneg (a := 3000 + p) (b := 3000 - q) (by omega) (by omega)
      simp only [Int.sub_mul, Int.add_mul, Int.mul_sub, Int.mul_add] at *
      omega
    have e2 : -(3000 * 3000) ≤ p * q := by
      have := Int.mul_nonneg (a := 3000 - p) (b := 3000 - q) (by omega) (by omega)
      have := Int.mul_nonneg (a := 3000 + p) (b := 3000 + q) (by omega) (by omega)
      simp only [Int.sub_mul, Int.add_mul, Int.mul_sub, Int.mul_add] at *
      omega
    omega
  have hq : ∀ p q : Int, -9000000 ≤ p → p ≤ 9000000 → -3000 ≤ q → q ≤ 3000 → -30000000000 ≤ p * q ∧ p * q ≤ 30000000000 := fun p q h1 h2 h3 h4 => by
    have e1 : p * q ≤ 9000000 * 3000 := by
      have := Int.mul_nonneg (a := 9000000 - p) (b := 3000 + q) (by omega) (by omega)
      have := Int.mul_nonneg (a := 9000000 + p) (b := 3000 - q) (by omega) (by omega)
      simp only [Int.sub_mul, Int.add_mul, Int.mul_sub, Int.mul_add] at *
      omega
    have e2 : -(9000000 * 3000) ≤ p * q := by
      have := Int.mul_nonneg (a := 9000000 - p) (b := 3000 - q) (by omega) (by omega)
      have := Int.mul_nonneg (a := 9000000 + p) (b := 3000 + q) (by omega) (by omega)
      simp only [Int.sub_mul, Int.add_mul, Int.mul_sub, Int.mul_add] at *
      omega
    omega
  have p1 := hp (ux - lx + 1) (uy - ly + 1) (by omega) (by omega) (by omega) (by omega)
  have p2 := hq ((ux - lx + 1) * (uy - ly + 1)) (uz - lz + 1) p1.1 p1.2 (by omega) (by omega)
  have d1 := wrapL (n := (ux - lx + 1) * (uy - ly + 1)) (by omega)
  have d2 := wrapL (n := (ux - lx + 1) * (uy - ly + 1) * (uz - lz + 1)) (by omega)
  clear hp hq p1 p2 h1 h2
  go_enter Tryz.func65, Tryz.ntmps65
  go_wp2
  go_ret
  exact ⟨rfl, (Below.refl _ _).alloc (Nat.le_refl _) _⟩
def volB (l : List Cel) : Int := match l with
  | [] => 0
  | h :: _ => sizeB (bndK h l l.length)
theorem volume_ok (l : List Cel) (v : Value) (w : World) (hl : Sl w v l) (hn : l.length ≤ 4096) (hr : ∀ c ∈ l, Near c 1000) :
    Calls Tryz.prog 62 #[v] w fun e w' => e = .returned (.int .i64 (volB l)) ∧ Below w.heap.size w w' := by
  cases l with
  | nil =>
    rcases hl with ⟨rfl, _⟩ | ⟨a, cap, rfl, _⟩
    · go_enter Tryz.func62, Tryz.ntmps62
      go_wp2
      go_ret
      exact ⟨rfl, Below.refl _ _⟩
    · go_enter Tryz.func62, Tryz.ntmps62
      go_wp2
      go_ret
      exact ⟨rfl, Below.refl _ _⟩
  | cons h l =>
    have hb := refBound_ok (h :: l) h v w hl rfl (by omega)
    have hnr : Near (bndK h (h :: l) (h :: l).length).1 1000 ∧ Near (bndK h (h :: l) (h :: l).length).2 1000 := by
      unfold bndK
      rw [List.take_length]
      exact bnd_near (h :: l) (h, h) ⟨hr h (List.mem_cons_self ..), hr h (List.mem_cons_self ..)⟩ hr
    have hs := fun W => size_ok (bndK h (h :: l) (h :: l).length) hnr.1 hnr.2 W
    have e : volB (h :: l) = sizeB (bndK h (h :: l) (h :: l).length) := rfl
    rw [e]
    generalize bndK h (h :: l) (h :: l).length = B at hb hs ⊢
    have hv : ∃ (a : Addr) (cap : Nat), v = .slice (some a) (h :: l).length cap := by
      rcases hl with ⟨_, h2⟩ | ⟨a, cap, rfl, _⟩
      · cases h2
      · exact ⟨a, cap, rfl⟩
    obtain ⟨a, cap, rfl⟩ := hv
    have hpos : ((((h :: l).length : Nat) : Int) == 0) = false := by rw [beq_eq_false_iff_ne]; simp; omega
    generalize (h :: l).length = n at hb hpos ⊢
    unfold boxV at hb hs
    clear hl hn hr hnr e
    go_enter Tryz.func62, Tryz.ntmps62
    go_wp2_with (first
      | (go_at_call 119; refine hb.mono ?_; rintro e w2 ⟨rfl, hB2⟩)
      | (go_at_call 65; refine (hs _).mono ?_; rintro e w3 ⟨rfl, hB3⟩))
    go_ret
    exact ⟨rfl, hB2.trans (hB3.mono hB2.size)⟩
/-- Is it a set of at most so many cells in a box of at most so many? -/
def fewB (n vol : Int) (l : List Cel) : Bool := decide ((l.length : Int) ≤ n) && (decide (chkI l = 0) && decide (volB l ≤ vol))
theorem few_ok (l : List Cel) (v : Value) (n vol : Int) (w : World) (hl : Sl w v l) (hn : l.length ≤ maxLen) (hn4 : n ≤ 4096) :
    Calls Tryz.prog 20 #[v, .int .i64 n, .int .i64 vol] w fun e w' => e = .returned (.bool (fewB n vol l)) ∧ Below w.heap.size w w' := by
  have hck := refCheckG l v w hl hn
  have hvl : ∃ (A : Option Addr) (cap : Nat), v = .slice A l.length cap := by
    rcases hl with ⟨rfl, rfl⟩ | ⟨a, cap, rfl, _⟩
    · exact ⟨none, 0, rfl⟩
    · exact ⟨some a, cap, rfl⟩
  unfold fewB
  by_cases h1 : (l.length : Int) ≤ n
  · by_cases h2 : chkI l = 0
    · have hvo := fun W (h : Below w.heap.size w W) => volume_ok l v W (hl.below h) (by omega) (chkI_zero.1 h2).2.1
      rw [h2] at hck
      rw [decide_eq_true h1, decide_eq_true h2, Bool.true_and, Bool.true_and]
      obtain ⟨A, cap, rfl⟩ := hvl
      have hd : decide ((l.length : Int) ≤ n) = true := decide_eq_true h1
      generalize volB l = V at hvo ⊢
      clear hl h2 hn
      go_enter Tryz.func20, Tryz.ntmps20
      go_wp2_with (first
        | (go_at_call 10; refine hck.mono ?_; rintro e w2 ⟨rfl, hB2⟩)
        | (go_at_call 62; refine (hvo _ hB2).mono ?_; rintro e w3 ⟨rfl, hB3⟩))
      go_ret
      exact ⟨rfl, hB2.trans (hB3.mono hB2.size)⟩
    · rw [decide_eq_false h2, Bool.false_and, Bool.and_false]
      have hz : (chkI l == 0) = false := by rw [beq_eq_false_iff_ne]; exact h2
      obtain ⟨A, cap, rfl⟩ := hvl
      generalize chkI l = c at hck hz
      clear hl h2 hn
      go_enter Tryz.func20, Tryz.ntmps20
      go_wp2_with (go_at_call 10; refine hck.mono ?_; rintro e w2 ⟨rfl, hB2⟩)
      go_ret
      exact ⟨rfl, hB2⟩
  · rw [decide_eq_false h1, Bool.false_and]
    obtain ⟨A, cap, rfl⟩ := hvl
    clear hl hck hn
    go_enter Tryz.func20, Tryz.ntmps20
    go_wp2
    go_ret
    exact ⟨rfl, Below.refl _ _⟩
end Go.Proofs
end

section
/- grid.CheckCells, for any list. -/
namespace Go.Proofs
open Go.RowKit
set_option maxHeartbeats 4000000
set_option maxRecDepth 1000000
theorem vecI_bad (c : Cel) : vecI c 1000 = if badC c then 3 else 0 := by
  unfold vecI orI withinI badC farB
  by_cases h1 : c.1 < -1000 ∨ 1000 < c.1 <;> by_cases h2 : c.2.1 < -1000 ∨ 1000 < c.2.1 <;> by_cases h3 : c.2.2 < -1000 ∨ 1000 < c.2.2 <;> simp [h1, h2, h3]
theorem checkCellG (x y z : Int) (w : World) :
    Calls Tryz.prog 66 #[.agg #[.int .i64 x, .int .i64 y, .int .i64 z]] w fun e w' => e = .returned (.int .i64 (if badC (x, y, z) then 3 else 0)) ∧ Below w.heap.size w w' := by
  have h := checkCell_ok x y z w
  rwa [vecI_bad] at h
theorem cmp3_neg (a b : Cel) : (cmp3 a.1 a.2.1 a.2.2 b.1 b.2.1 b.2.2 < 0) ↔ ltC a b = true := cmp3_lt a b
theorem gridCheckG (l : List Cel) (v : Value) (w : World) (hl : Sl w v l) (hn : l.length ≤ maxLen) :
    Calls Tryz.prog 49 #[v] w fun e w' => e = .returned (.int .i64 (chkI l)) ∧ Below w.heap.size w w' := by
  unfold maxLen at hn
  obtain ⟨A, cap, rfl⟩ := hl.form
  by_cases h4 : 4096 < l.length
  · have hn' : (4096 : Int) < l.length := by omega
    have e : chkI l = 5 := by unfold chkI; rw [if_pos h4]
    rw [e]
    clear hl h4 e
    go_enter Tryz.func49, Tryz.ntmps49
    go_wp2
    go_ret
    exact ⟨rfl, Below.refl _ _⟩
  · have hn' : ¬ ((4096 : Int) < l.length) := by omega
    have e : chkI l = chkFrom (prevC l 0) (l.drop 0) := by unfold chkI; rw [if_neg h4]; rfl
    rw [e]
    clear e
    go_enter Tryz.func49, Tryz.ntmps49
    go_wp2
    go_loopw [11] (fun i wr => ∃ k : Nat, k ≤ l.length ∧ i = .int .i64 k ∧ Below w.heap.size w wr ∧ chkFrom (prevC l k) (l.drop k) = chkFrom (prevC l 0) (l.drop 0)) (fun i _ => l.length - (intOf i).toNat)
    case atStart => exact ⟨0, Nat.zero_le _, rfl, Below.refl _ _, rfl⟩
    case round =>
      obtain ⟨k, hk, rfl, hBel, hch⟩ := hrel
      rcases Nat.lt_or_eq_of_le hk with hkn | rfl
      · obtain ⟨b, o, x, y, z, rfl, -, hb, hc, r0, r1, r2⟩ := hl.cells hkn
        rw [chk_step hc] at hch
        have hv := fun W => checkCellG x y z W
        have hsz := hBel.size
        rw [← hBel.cell (p := ⟨b, _, none⟩) hb] at r0 r1 r2
        cases hbad : badC (x, y, z) with
        | true =>
          rw [hbad] at hch hv
          simp only [if_true] at hch hv
          have Hch := Lib.hid hch
          clear hl hbad hch
          go_wp2_with (go_at_call 66; refine (hv _).mono ?_; rintro e w2 ⟨rfl, hB2⟩)
          go_ret
          exact ⟨by rw [← Hch.out]; rfl, (hBel.alloc hsz _).trans (hB2.mono (by simp; omega))⟩
        | false =>
          rw [hbad] at hch hv
          simp only [Bool.false_eq_true, if_false] at hch hv
          rcases Nat.eq_zero_or_pos k with rfl | hpos
          · have hp : prevC l 0 = none := rfl
            rw [hp] at hch
            simp only [Option.any_none, Bool.false_eq_true, if_false] at hch
            simp only [Nat.zero_mul, Nat.add_zero] at r0 r1 r2
            have Hch := Lib.hid hch
            clear hl hbad hch hp
            go_wp2_with (go_at_call 66; refine (hv _).mono ?_; rintro e w2 ⟨rfl, hB2⟩)
            have hB3 : Below w.heap.size w w2 := (hBel.alloc hsz _).trans (hB2.mono (by simp; omega))
            clear hB2 hv hBel
            go_quiet (fail)
            go_wp2
            exact ⟨⟨1, hkn, rfl, ⟨hB3.os, hB3.tape, hB3.output, hB3.size, hB3.block⟩, Hch.out⟩, by simp [intOf]; omega⟩
          · obtain ⟨b', o', px, py, pz, e1, -, -, hp, q0, q1, q2⟩ := hl.cells (k := k - 1) (by omega)
            obtain ⟨rfl, rfl⟩ : b' = b ∧ o' = o := by injection e1 with e1; injection e1 with e1 e2; exact ⟨e1.symm, e2.symm⟩
            have hpv : prevC l k = some (px, py, pz) := by unfold prevC; rw [if_neg (by omega)]; exact hp
            rw [hpv] at hch
            simp only [Option.any_some] at hch
            have hcm := fun W => compareCells_ok px py pz x y z W
            have hlt3 := cmp3_neg (px, py, pz) (x, y, z)
            dsimp only at hlt3
            generalize cmp3 px py pz x y z = r at hlt3 hcm
            have hkk : (k - 1) * 3 + 3 = k * 3 := by omega
            clear hl e1 hpv hbad
            go_wp2_with (go_at_call 66; refine (hv _).mono ?_; rintro e w2 ⟨rfl, hB2⟩)
            have hB3 : Below w.heap.size w w2 := (hBel.alloc hsz _).trans (hB2.mono (by simp; omega))
            have c0 : w2.cell? ⟨wr.heap.size, 0, none⟩ = some (.int .i64 x) := by rw [hB2.cell (p := ⟨wr.heap.size, 0, none⟩) (by simp)]; go_simp
            have c1 : w2.cell? ⟨wr.heap.size, 1, none⟩ = some (.int .i64 y) := by rw [hB2.cell (p := ⟨wr.heap.size, 1, none⟩) (by simp)]; go_simp
            have c2 : w2.cell? ⟨wr.heap.size, 2, none⟩ = some (.int .i64 z) := by rw [hB2.cell (p := ⟨wr.heap.size, 2, none⟩) (by simp)]; go_simp
            rw [← hB3.cell (p := ⟨b', _, none⟩) hb] at q0 q1 q2
            clear hB2 hv hBel r0 r1 r2
            have hw : IntKind.i64.wrap ((k : Int) - 1) = (k : Int) - 1 := wrapS (by omega)
            have hi0 : 1 ≤ (k : Int) := by omega
            have hi1 : (k : Int) - 1 < l.length := by omega
            have hit : ((k : Int) - 1).toNat = k - 1 := by omega
            have hd : decide ((0 : Int) < k) = true := by simp; omega
            go_still_tail 9, (by kernel_rfl)
            change wpList _ _ _ _ _ w2.drew
            have hB4 : Below w.heap.size w w2.drew := ⟨hB3.os, hB3.tape, hB3.output, hB3.size, hB3.block⟩
            clear q0 q1 q2 c0 c1 c2 hw hi0 hi1 hit hd hB3
            generalize w2.drew = w3 at hB4 ⊢
            cases hlt : ltC (px, py, pz) (x, y, z) with
            | true =>
              simp only [hlt, Bool.not_true, Bool.false_eq_true, if_false] at hch
              have hr : ¬ (0 ≤ r) := by have := hlt3.2 hlt; omega
              have Hch := Lib.hid hch
              clear hlt hch hlt3
              go_wp2_with (go_at_call 110; refine (hcm _).mono ?_; rintro e w4 ⟨rfl, hB5⟩)
              exact ⟨⟨k + 1, hkn, rfl, hB4.trans (hB5.mono hB4.size), Hch.out⟩, by simp [intOf]; omega⟩
            | false =>
              simp only [hlt, Bool.not_false, if_true] at hch
              have hr : 0 ≤ r := by
                rcases Int.lt_or_le r 0 with h | h
                · rw [hlt3.1 h] at hlt; cases hlt
                · exact h
              have Hch := Lib.hid hch
              clear hlt hch hlt3
              go_wp2_with (go_at_call 110; refine (hcm _).mono ?_; rintro e w4 ⟨rfl, hB5⟩)
              go_ret
              exact ⟨by rw [← Hch.out]; rfl, hB4.trans (hB5.mono hB4.size)⟩
      · rw [List.drop_length] at hch
        have hch' : (0 : Int) = chkFrom (prevC l 0) (l.drop 0) := by rw [← hch]; cases prevC l l.length <;> rfl
        have Hch := Lib.hid hch'
        clear hl hch hch'
        go_wp2
        go_ret
        exact ⟨by rw [← Hch.out]; rfl, hBel⟩
end Go.Proofs
end
