import Derived.Test.YtpickbchpnbffaaGreatBoundR
import Derived.Test.YtpickbchpnbffaaGreatDistP
import Derived.Test.YtpickbchpnbffaaGreatInsP
import Derived.Test.YtpickbchpnbffaaGreatGrP
section
/- The reference's Size, Volume and FewCells. -/
namespace Go.Proofs
open Go.RowKit
set_option maxHeartbeats 8000000
set_option maxRecDepth 1000000
theorem badC_near {c : Cel} : badC c = false ↔ Near c 1000 := by
  unfold badC farB Near
  simp only [Bool.or_eq_false_iff, decide_eq_false_iff_not]
  omega
theorem up_asc {l : List Cel} (h : Up l) : Asc l := fun i a b ha hb => (cmp3_lt a b).2 (up_get h ha hb (Nat.lt_succ_self i))
/-- A set as the document has it: ascending, within the limits. -/
theorem chkI_zero {l : List Cel} : chkI l = 0 ↔ l.length ≤ 4096 ∧ (∀ c ∈ l, Near c 1000) ∧ Up l := by
  unfold chkI
  split
  · rename_i h
    constructor
    · intro e; cases e
    · intro e; omega
  · rename_i h
    constructor
    · intro e
      obtain ⟨h1, _, h3⟩ := chkFrom_zero l none e
      exact ⟨by omega, fun c hc => badC_near.1 (h1 c hc), h3⟩
    · rintro ⟨_, h2, h3⟩
      exact chkFrom_of l none (fun c hc => badC_near.2 (h2 c hc)) (fun q hq => by cases hq) h3
theorem up_good {l : List Cel} {b : Int} (h : Up l) (hn : ∀ c ∈ l, Near c b) : Good l b := ⟨up_nodup h, up_asc h, hn⟩
/-- How many cells a box has. -/
def sizeB (b : Cel × Cel) : Int := (b.2.1 - b.1.1 + 1) * (b.2.2.1 - b.1.2.1 + 1) * (b.2.2.2 - b.1.2.2 + 1)
theorem bnd_near {b : Int} : ∀ (l : List Cel) (B : Cel × Cel), (Near B.1 b ∧ Near B.2 b) → (∀ c ∈ l, Near c b) → Near (l.foldl bndS B).1 b ∧ Near (l.foldl bndS B).2 b
  | [], _, h, _ => h
  | c :: l, B, h, hl => by
    refine bnd_near l (bndS B c) ?_ (fun x hx => hl x (List.mem_cons_of_mem _ hx))
    have hc := hl c (List.mem_cons_self ..)
    unfold Near at *
    unfold bndS
    dsimp only
    omega
def volB (l : List Cel) : Int := match l with
  | [] => 0
  | h :: _ => sizeB (bndK h l l.length)
/-- Is it a set of at most so many cells in a box of at most so many? -/
def fewB (n vol : Int) (l : List Cel) : Bool := decide ((l.length : Int) ≤ n) && (decide (chkI l = 0) && decide (volB l ≤ vol))
end Go.Proofs
end

section
/- A part of what ShiftR had: shiftC. -/
namespace Go.Proofs
open Go.Shelf Go.RowKit Go.Lib Go.Sort
set_option maxHeartbeats 8000000
set_option maxRecDepth 1000000
def shiftC (b c : Cel) : Cel := (c.1 + b.1, c.2.1 + b.2.1, c.2.2 + b.2.2)
end Go.Proofs
end

section
/- Bites: paths, hits and contacts as lists; what the distance tells of them. -/
namespace Go.Proofs
open Go.RowKit
set_option maxHeartbeats 8000000
set_option maxRecDepth 1000000
/-- A path as the document has it. -/
structure PathOk (p : List Cel) : Prop where
  pos : 0 < p.length
  len : p.length ≤ 256
  near : ∀ c ∈ p, Near c 1000
  step : ∀ i a b, p[i]? = some a → p[i + 1]? = some b → a ≠ b ∧ Near (b.1 - a.1, b.2.1 - a.2.1, b.2.2 - a.2.2) 1
/-- A bite as the document has it. -/
structure BiteOk (u l p : List Cel) : Prop where
  cu : chkI u = 0
  cl : chkI l = 0
  nu : 0 < u.length
  nl : 0 < l.length
  path : PathOk p
  there : ∀ s ∈ p, ∀ c ∈ l, Near (shiftC s c) 1000
def negC (s : Cel) : Cel := (-s.1, -s.2.1, -s.2.2)
def backC (s c : Cel) : Cel := shiftC (negC s) c
/-- A cell has a neighbour in a list. -/
def touchB (l : List Cel) (c : Cel) : Bool :=
  decide ((c.1 - 1, c.2.1, c.2.2) ∈ l) || (decide ((c.1 + 1, c.2.1, c.2.2) ∈ l) || (decide ((c.1, c.2.1 - 1, c.2.2) ∈ l) || (decide ((c.1, c.2.1 + 1, c.2.2) ∈ l) || (decide ((c.1, c.2.1, c.2.2 - 1) ∈ l) || decide ((c.1, c.2.1, c.2.2 + 1) ∈ l)))))
def hitB (u l : List Cel) (s : Cel) : List Cel := u.filter fun c => decide (backC s c ∈ l)
def conB (u l : List Cel) (s : Cel) : List Cel := u.filter fun c => !decide (backC s c ∈ l) && touchB l (backC s c)
def stateB (u l : List Cel) (s : Cel) : Int := if hitB u l s ≠ [] then 2 else if conB u l s ≠ [] then 1 else 0
theorem back_shift (s e : Cel) : backC s (shiftC s e) = e := by
  obtain ⟨a, b, c⟩ := s
  obtain ⟨x, y, z⟩ := e
  simp only [backC, negC, shiftC, Prod.mk.injEq]
  omega
theorem shift_back (s e : Cel) : shiftC s (backC s e) = e := by
  obtain ⟨a, b, c⟩ := s
  obtain ⟨x, y, z⟩ := e
  simp only [backC, negC, shiftC, Prod.mk.injEq]
  omega
theorem back_mem {l : List Cel} {s c : Cel} : backC s c ∈ l ↔ c ∈ l.map (shiftC s) := by
  constructor
  · intro h
    exact List.mem_map.2 ⟨_, h, shift_back s c⟩
  · intro h
    obtain ⟨e, he, rfl⟩ := List.mem_map.1 h
    rw [back_shift]
    exact he
theorem hit_cut (u l : List Cel) (s : Cel) : hitB u l s = u.filter fun c => decide (c ∈ l.map (shiftC s)) := by
  unfold hitB
  congr 1
  funext c
  simp only [back_mem]
theorem dist_back (s c e : Cel) : distI (backC s c) e = distI c (shiftC s e) := by
  unfold distI backC negC shiftC
  dsimp only
  omega
theorem touch_iff {l : List Cel} {c : Cel} : touchB l c = true ↔ ∃ d ∈ l, distI c d = 1 := by
  obtain ⟨x, y, z⟩ := c
  unfold touchB
  simp only [Bool.or_eq_true, decide_eq_true_eq]
  constructor
  · rintro (h | h | h | h | h | h)
    all_goals refine ⟨_, h, ?_⟩
    all_goals unfold distI
    all_goals dsimp only
    all_goals omega
  · rintro ⟨⟨a, b, c⟩, hd, h⟩
    unfold distI at h
    dsimp only at h
    have key : (a = x - 1 ∧ b = y ∧ c = z) ∨ (a = x + 1 ∧ b = y ∧ c = z) ∨ (a = x ∧ b = y - 1 ∧ c = z) ∨ (a = x ∧ b = y + 1 ∧ c = z) ∨ (a = x ∧ b = y ∧ c = z - 1) ∨ (a = x ∧ b = y ∧ c = z + 1) := by omega
    rcases key with ⟨rfl, rfl, rfl⟩ | ⟨rfl, rfl, rfl⟩ | ⟨rfl, rfl, rfl⟩ | ⟨rfl, rfl, rfl⟩ | ⟨rfl, rfl, rfl⟩ | ⟨rfl, rfl, rfl⟩
    · exact .inl hd
    · exact .inr (.inl hd)
    · exact .inr (.inr (.inl hd))
    · exact .inr (.inr (.inr (.inl hd)))
    · exact .inr (.inr (.inr (.inr (.inl hd))))
    · exact .inr (.inr (.inr (.inr (.inr hd))))
theorem hit_nil {u l : List Cel} {s : Cel} {d : Int} (h : Least u (l.map (shiftC s)) d) : hitB u l s = [] ↔ d ≠ 0 := by
  obtain ⟨⟨x, hx, y, hy, e⟩, hle⟩ := h
  rw [hit_cut, List.filter_eq_nil_iff]
  constructor
  · rintro hn rfl
    obtain rfl := dist_zero (Int.le_of_eq e)
    exact hn x hx (decide_eq_true hy)
  · intro hd c hc hm
    have h1 := hle c hc c (of_decide_eq_true hm)
    rw [dist_self] at h1
    have := dist_pos x y
    omega
theorem con_iff {u l : List Cel} {s c : Cel} : c ∈ conB u l s ↔ c ∈ u ∧ backC s c ∉ l ∧ ∃ e ∈ l, distI c (shiftC s e) = 1 := by
  unfold conB
  rw [List.mem_filter, Bool.and_eq_true, touch_iff, Bool.not_eq_true', decide_eq_false_iff_not]
  simp only [dist_back]
theorem state_dist {u l : List Cel} {s : Cel} {d : Int} (h : Least u (l.map (shiftC s)) d) : stateB u l s = max 0 (2 - d) := by
  have hn := hit_nil h
  obtain ⟨⟨x, hx, y, hy, e⟩, hle⟩ := h
  have hp := dist_pos x y
  unfold stateB
  by_cases h0 : d = 0
  · rw [if_pos (fun he => (hn.1 he) h0)]
    omega
  · have he := hn.2 h0
    rw [if_neg (fun h => h he)]
    obtain ⟨f, hf, rfl⟩ := List.mem_map.1 hy
    by_cases h1 : d = 1
    · rw [if_pos]
      · omega
      · intro hc
        have hm : x ∈ conB u l s := con_iff.2 ⟨hx, fun hb => ?_, f, hf, by omega⟩
        · rw [hc] at hm
          cases hm
        · have hm : x ∈ hitB u l s := List.mem_filter.2 ⟨hx, decide_eq_true hb⟩
          rw [he] at hm
          cases hm
    · rw [if_neg]
      · omega
      · intro hc
        obtain ⟨c, hm⟩ := List.exists_mem_of_ne_nil _ hc
        obtain ⟨k1, -, g, hg, k3⟩ := con_iff.1 hm
        have := hle c k1 _ (List.mem_map.2 ⟨g, hg, rfl⟩)
        omega
/-- Where there are no hits, the contacts are the cells that the other set has, grown by a step. -/
theorem con_cut {u l X : List Cel} {s : Cel} (hn : hitB u l s = []) (hX : ∀ c, c ∈ X ↔ c ∈ growN 1 (l.map (shiftC s))) : conB u l s = u.filter fun c => decide (c ∈ X) := by
  unfold conB
  refine List.filter_congr fun c hc => ?_
  have hno : backC s c ∉ l := fun hb => by
    have hm : c ∈ hitB u l s := List.mem_filter.2 ⟨hc, decide_eq_true hb⟩
    rw [hn] at hm
    cases hm
  rw [decide_eq_false hno, Bool.not_false, Bool.true_and]
  have key : touchB l (backC s c) = true ↔ c ∈ X := by
    rw [touch_iff, hX, grow_iff]
    constructor
    · rintro ⟨d, hd, h⟩
      rw [dist_back] at h
      exact ⟨_, List.mem_map.2 ⟨d, hd, rfl⟩, by rw [dist_symm]; exact Int.le_of_eq h⟩
    · rintro ⟨q, hq, h⟩
      obtain ⟨d, hd, rfl⟩ := List.mem_map.1 hq
      refine ⟨d, hd, ?_⟩
      rw [dist_back]
      have hne : distI c (shiftC s d) ≠ 0 := fun h0 => by
        have := dist_zero (Int.le_of_eq h0)
        rw [this, back_shift] at hno
        exact hno hd
      have := dist_pos c (shiftC s d)
      have h2 := dist_symm c (shiftC s d)
      have h3 : ((1 : Nat) : Int) = 1 := rfl
      omega
  cases h : touchB l (backC s c) with
  | true => exact (decide_eq_true (key.1 h)).symm
  | false => exact (decide_eq_false fun hx => by rw [key.2 hx] at h; cases h).symm
theorem path_at {p : List Cel} (h : PathOk p) {i : Nat} {c : Cel} (hc : p[i]? = some c) : Near c 1000 := h.near c (List.mem_of_getElem? hc)
end Go.Proofs
end

section
/- grid.CheckCells, for any list. -/
namespace Go.Proofs
open Go.RowKit
set_option maxHeartbeats 4000000
set_option maxRecDepth 1000000
theorem vecI_bad (c : Cel) : vecI c 1000 = if badC c then 3 else 0 := by
  unfold vecI orI withinI badC farB
  by_cases h1 : c.1 < -1000 ∨ 1000 < c.1 <;> by_cases h2 : c.2.1 < -1000 ∨ 1000 < c.2.1 <;> by_cases h3 : c.2.2 < -1000 ∨ 1000 < c.2.2 <;> simp [h1, h2, h3]
theorem checkCellG (x y z : Int) (w : World) :
    Calls Tryz.prog 49 #[.agg #[.int .i64 x, .int .i64 y, .int .i64 z]] w fun e w' => e = .returned (.int .i64 (if badC (x, y, z) then 3 else 0)) ∧ Below w.heap.size w w' := by
  have h := checkCell_ok x y z w
  rwa [vecI_bad] at h
theorem cmp3_neg (a b : Cel) : (cmp3 a.1 a.2.1 a.2.2 b.1 b.2.1 b.2.2 < 0) ↔ ltC a b = true := cmp3_lt a b
theorem gridCheckG (l : List Cel) (v : Value) (w : World) (hl : Sl w v l) (hn : l.length ≤ maxLen) :
    Calls Tryz.prog 33 #[v] w fun e w' => e = .returned (.int .i64 (chkI l)) ∧ Below w.heap.size w w' := by
  unfold maxLen at hn
  obtain ⟨A, cap, rfl⟩ := hl.form
  by_cases h4 : 4096 < l.length
  · have hn' : (4096 : Int) < l.length := by omega
    have e : chkI l = 5 := by unfold chkI; rw [if_pos h4]
    rw [e]
    clear hl h4 e
    go_enter Tryz.func33, Tryz.ntmps33
    go_wp2
    go_ret
    exact ⟨rfl, Below.refl _ _⟩
  · have hn' : ¬ ((4096 : Int) < l.length) := by omega
    have e : chkI l = chkFrom (prevC l 0) (l.drop 0) := by unfold chkI; rw [if_neg h4]; rfl
    rw [e]
    clear e
    go_enter Tryz.func33, Tryz.ntmps33
    go_wp2
    go_loopw [11] (fun i wr => ∃ k : Nat, k ≤ l.length ∧ i = .int .i64 k ∧ Below w.heap.size w wr ∧ chkFrom (prevC l k) (l.drop k) = chkFrom (prevC l 0) (l.drop 0)) (fun i _ => l.length - (intOf i).toNat)
    case atStart => exact ⟨0, Nat.zero_le _, rfl, Below.refl _ _, rfl⟩
    case round =>
      obtain ⟨k, hk, rfl, hBel, hch⟩ := hrel
      rcases Nat.lt_or_eq_of_le hk with hkn | rfl
      · obtain ⟨b, o, x, y, z, rfl, -, hb, hc, r0, r1, r2⟩ := hl.cells hkn
        rw [chk_step hc] at hch
        have hv := fun W => checkCellG x y z W
        have hsz := hBel.size
        rw [← hBel.cell (p := ⟨b, _, none⟩) hb] at r0 r1 r2
        cases hbad : badC (x, y, z) with
        | true =>
          rw [hbad] at hch hv
          simp only [if_true] at hch hv
          have Hch := Lib.hid hch
          clear hl hbad hch
          go_wp2_with (go_at_call 49; refine (hv _).mono ?_; rintro e w2 ⟨rfl, hB2⟩)
          go_ret
          exact ⟨by rw [← Hch.out]; rfl, (hBel.alloc hsz _).trans (hB2.mono (by simp; omega))⟩
        | false =>
          rw [hbad] at hch hv
          simp only [Bool.false_eq_true, if_false] at hch hv
          rcases Nat.eq_zero_or_pos k with rfl | hpos
          · have hp : prevC l 0 = none := rfl
            rw [hp] at hch
            simp only [Option.any_none, Bool.false_eq_true, if_false] at hch
            simp only [Nat.zero_mul, Nat.add_zero] at r0 r1 r2
            have Hch := Lib.hid hch
            clear hl hbad hch hp
            go_wp2_with (go_at_call 49; refine (hv _).mono ?_; rintro e w2 ⟨rfl, hB2⟩)
            have hB3 : Below w.heap.size w w2 := (hBel.alloc hsz _).trans (hB2.mono (by simp; omega))
            clear hB2 hv hBel
            go_quiet (fail)
            go_wp2
            exact ⟨⟨1, hkn, rfl, ⟨hB3.os, hB3.tape, hB3.output, hB3.size, hB3.block⟩, Hch.out⟩, by simp [intOf]; omega⟩
          · obtain ⟨b', o', px, py, pz, e1, -, -, hp, q0, q1, q2⟩ := hl.cells (k := k - 1) (by omega)
            obtain ⟨rfl, rfl⟩ : b' = b ∧ o' = o := by injection e1 with e1; injection e1 with e1 e2; exact ⟨e1.symm, e2.symm⟩
            have hpv : prevC l k = some (px, py, pz) := by unfold prevC; rw [if_neg (by omega)]; exact hp
            rw [hpv] at hch
            simp only [Option.any_some] at hch
            have hcm := fun W => compareCells_ok px py pz x y z W
            have hlt3 := cmp3_neg (px, py, pz) (x, y, z)
            dsimp only at hlt3
            generalize cmp3 px py pz x y z = r at hlt3 hcm
            have hkk : (k - 1) * 3 + 3 = k * 3 := by omega
            clear hl e1 hpv hbad
            go_wp2_with (go_at_call 49; refine (hv _).mono ?_; rintro e w2 ⟨rfl, hB2⟩)
            have hB3 : Below w.heap.size w w2 := (hBel.alloc hsz _).trans (hB2.mono (by simp; omega))
            have c0 : w2.cell? ⟨wr.heap.size, 0, none⟩ = some (.int .i64 x) := by rw [hB2.cell (p := ⟨wr.heap.size, 0, none⟩) (by simp)]; go_simp
            have c1 : w2.cell? ⟨wr.heap.size, 1, none⟩ = some (.int .i64 y) := by rw [hB2.cell (p := ⟨wr.heap.size, 1, none⟩) (by simp)]; go_simp
            have c2 : w2.cell? ⟨wr.heap.size, 2, none⟩ = some (.int .i64 z) := by rw [hB2.cell (p := ⟨wr.heap.size, 2, none⟩) (by simp)]; go_simp
            rw [← hB3.cell (p := ⟨b', _, none⟩) hb] at q0 q1 q2
            clear hB2 hv hBel r0 r1 r2
            have hw : IntKind.i64.wrap ((k : Int) - 1) = (k : Int) - 1 := wrapS (by omega)
            have hi0 : 1 ≤ (k : Int) := by omega
            have hi1 : (k : Int) - 1 < l.length := by omega
            have hit : ((k : Int) - 1).toNat = k - 1 := by omega
            have hd : decide ((0 : Int) < k) = true := by simp; omega
            go_still_tail 9, (by kernel_rfl)
            change wpList _ _ _ _ _ w2.drew
            have hB4 : Below w.heap.size w w2.drew := ⟨hB3.os, hB3.tape, hB3.output, hB3.size, hB3.block⟩
            clear q0 q1 q2 c0 c1 c2 hw hi0 hi1 hit hd hB3
            generalize w2.drew = w3 at hB4 ⊢
            cases hlt : ltC (px, py, pz) (x, y, z) with
            | true =>
              simp only [hlt, Bool.not_true, Bool.false_eq_true, if_false] at hch
              have hr : ¬ (0 ≤ r) := by have := hlt3.2 hlt; omega
              have Hch := Lib.hid hch
              clear hlt hch hlt3
              go_wp2_with (go_at_call 73; refine (hcm _).mono ?_; rintro e w4 ⟨rfl, hB5⟩)
              exact ⟨⟨k + 1, hkn, rfl, hB4.trans (hB5.mono hB4.size), Hch.out⟩, by simp [intOf]; omega⟩
            | false =>
              simp only [hlt, Bool.not_false, if_true] at hch
              have hr : 0 ≤ r := by
                rcases Int.lt_or_le r 0 with h | h
                · rw [hlt3.1 h] at hlt; cases hlt
                · exact h
              have Hch := Lib.hid hch
              clear hlt hch hlt3
              go_wp2_with (go_at_call 73; refine (hcm _).mono ?_; rintro e w4 ⟨rfl, hB5⟩)
              go_ret
              exact ⟨by rw [← Hch.out]; rfl, hB4.trans (hB5.mono hB4.size)⟩
      · rw [List.drop_length] at hch
        have hch' : (0 : Int) = chkFrom (prevC l 0) (l.drop 0) := by rw [← hch]; cases prevC l l.length <;> rfl
        have Hch := Lib.hid hch'
        clear hl hch hch'
        go_wp2
        go_ret
        exact ⟨by rw [← Hch.out]; rfl, hBel⟩
end Go.Proofs
end

section
/- The reference's At and HasCell. -/
namespace Go.Proofs
open Go.RowKit
set_option maxHeartbeats 8000000
set_option maxRecDepth 1000000
end Go.Proofs
end
