/- The reference's Size, Volume and FewCells. -/
import Derived.Test.YtedjohdoenncbaaGreatDoorCut
import Derived.Test.YtedjohdoenncbaaGreatDoorBoundR
import Derived.Test.YtedjohdoenncbaaGreatDoorGoodT
namespace Go.Proofs
open Go.RowKit
set_option maxHeartbeats 8000000
set_option maxRecDepth 1000000
theorem badC_near {c : Cel} : badC c = false ↔ Near c 1000 := by
  unfold badC farB Near
  simp only [Bool.or_eq_false_iff, decide_eq_false_iff_not]
  omega
theorem up_asc {l : List Cel} (h : Up l) : Asc l := fun i a b ha hb => (cmp3_lt a b).2 (up_get h ha hb (Nat.lt_succ_self i))
/-- A set as the document has it: ascending, within the limits. -/
theorem chkI_zero {l : List Cel} : chkI l = 0 ↔ l.length ≤ 4096 ∧ (∀ c ∈ l, Near c 1000) ∧ Up l := by
  unfold chkI
  split
  · rename_i h
    constructor
    · intro e; cases e
    · intro e; omega
  · rename_i h
    constructor
    · intro e
      obtain ⟨h1, _, h3⟩ := chkFrom_zero l none e
      exact ⟨by omega, fun c hc => badC_near.1 (h1 c hc), h3⟩
    · rintro ⟨_, h2, h3⟩
      exact chkFrom_of l none (fun c hc => badC_near.2 (h2 c hc)) (fun q hq => by cases hq) h3
theorem up_good {l : List Cel} {b : Int} (h : Up l) (hn : ∀ c ∈ l, Near c b) : Good l b := ⟨up_nodup h, up_asc h, hn⟩
/-- How many cells a box has. -/
def sizeB (b : Cel × Cel) : Int := (b.2.1 - b.1.1 + 1) * (b.2.2.1 - b.1.2.1 + 1) * (b.2.2.2 - b.1.2.2 + 1)
theorem bnd_near {b : Int} : ∀ (l : List Cel) (B : Cel × Cel), (Near B.1 b ∧ Near B.2 b) → (∀ c ∈ l, Near c b) → Near (l.foldl bndS B).1 b ∧ Near (l.foldl bndS B).2 b
  | [], _, h, _ => h
  | c :: l, B, h, hl => by
    refine bnd_near l (bndS B c) ?_ (fun x hx => hl x (List.mem_cons_of_mem _ hx))
    have hc := hl c (List.mem_cons_self ..)
    unfold Near at *
    unfold bndS
    dsimp only
    omega
theorem size_ok (b : Cel × Cel) (h1 : Near b.1 1000) (h2 : Near b.2 1000) (w : World) :
    Calls Tryz.prog 28 #[boxV b] w fun e w' => e = .returned (.int .i64 (sizeB b)) ∧ Below w.heap.size w w' := by
  obtain ⟨⟨lx, ly, lz⟩, ⟨ux, uy, uz⟩⟩ := b
  unfold Near at h1 h2
  unfold boxV sizeB
  dsimp only at h1 h2 ⊢
  have a1 := wrapL (n := ux - lx) (by omega)
  have a2 := wrapL (n := ux - lx + 1) (by omega)
  have b1 := wrapL (n := uy - ly) (by omega)
  have b2 := wrapL (n := uy - ly + 1) (by omega)
  have c1 := wrapL (n := uz - lz) (by omega)
  have c2 := wrapL (n := uz - lz + 1) (by omega)
  have hp : ∀ p q : Int, -3000 ≤ p → p ≤ 3000 → -3000 ≤ q → q ≤ 3000 → -9000000 ≤ p * q ∧ p * q ≤ 9000000 := fun p q h1 h2 h3 h4 => by
    have e1 : p * q ≤ 3000 * 3000 := by
      have := Int.mul_nonneg (a := 3000 - p) (b := 3000 + q) (by omega) (by omega)
      have := Int.mul_nonneg (a := 3000 + p) (b := 3000 - q) (by omega) (by omega)
      simp only [Int.sub_mul, Int.add_mul, Int.mul_sub, Int.mul_add] at *
      omega
    have e2 : -(3000 * 3000) ≤ p * q := by
      have := Int.mul_nonneg (a := 3000 - p) (b := 3000 - q) (by omega) (by omega)
      have := Int.mul_nonneg (a := 3000 + p) (b := 3000 + q) (by omega) (by omega)
      simp only [Int.sub_mul, Int.add_mul, Int.mul_sub, Int.mul_add] at *
      omega
    omega
  have hq : ∀ p q : Int, -9000000 ≤ p → p ≤ 9000000 → -3000 ≤ q → q ≤ 3000 → -30000000000 ≤ p * q ∧ p * q ≤ 30000000000 := fun p q h1 h2 h3 h4 => by
    have e1 : p * q ≤ 9000000 * 3000 := by
      have := Int.mul_nonneg (a := 9000000 - p) (b := 3000 + q) (by omega) (by omega)
      have := Int.mul_nonneg (a := 9000000 + p) (b := 3000 - q) (by omega) (by omega)
      simp only [Int.sub_mul, Int.add_mul, Int.mul_sub, Int.mul_add] at *
      omega
    have e2 : -(9000000 * 3000) ≤ p * q := by
      have := Int.mul_nonneg (a := 9000000 - p) (b := 3000 - q) (by omega) (by omega)
      have := Int.mul_nonneg (a := 9000000 + p) (b := 3000 + q) (by omega) (by omega)
      simp only [Int.sub_mul, Int.add_mul, Int.mul_sub, Int.mul_add] at *
      omega
    omega
  have p1 := hp (ux - lx + 1) (uy - ly + 1) (by omega) (by omega) (by omega) (by omega)
  have p2 := hq ((ux - lx + 1) * (uy - ly + 1)) (uz - lz + 1) p1.1 p1.2 (by omega) (by omega)
  have d1 := wrapL (n := (ux - lx + 1) * (uy - ly + 1)) (by omega)
  have d2 := wrapL (n := (ux - lx + 1) * (uy - ly + 1) * (uz - lz + 1)) (by omega)
  clear hp hq p1 p2 h1 h2
  go_enter Tryz.func28, Tryz.ntmps28
  go_wp2
  go_ret
  exact ⟨rfl, (Below.refl _ _).alloc (Nat.le_refl _) _⟩
def volB (l : List Cel) : Int := match l with
  | [] => 0
  | h :: _ => sizeB (bndK h l l.length)
theorem volume_ok (l : List Cel) (v : Value) (w : World) (hl : Sl w v l) (hn : l.length ≤ 4096) (hr : ∀ c ∈ l, Near c 1000) :
    Calls Tryz.prog 119 #[v] w fun e w' => e = .returned (.int .i64 (volB l)) ∧ Below w.heap.size w w' := by
  cases l with
  | nil =>
    rcases hl with ⟨rfl, _⟩ | ⟨a, cap, rfl, _⟩
    · go_enter Tryz.func119, Tryz.ntmps119
      go_wp2
      go_ret
      exact ⟨rfl, Below.refl _ _⟩
    · go_enter Tryz.func119, Tryz.ntmps119
      go_wp2
      go_ret
      exact ⟨rfl, Below.refl _ _⟩
  | cons h l =>
    have hb := refBound_ok (h :: l) h v w hl rfl (by omega)
    have hnr : Near (bndK h (h :: l) (h :: l).length).1 1000 ∧ Near (bndK h (h :: l) (h :: l).length).2 1000 := by
      unfold bndK
      rw [List.take_length]
      exact bnd_near (h :: l) (h, h) ⟨hr h (List.mem_cons_self ..), hr h (List.mem_cons_self ..)⟩ hr
    have hs := fun W => size_ok (bndK h (h :: l) (h :: l).length) hnr.1 hnr.2 W
    have e : volB (h :: l) = sizeB (bndK h (h :: l) (h :: l).length) := rfl
    rw [e]
    generalize bndK h (h :: l) (h :: l).length = B at hb hs ⊢
    have hv : ∃ (a : Addr) (cap : Nat), v = .slice (some a) (h :: l).length cap := by
      rcases hl with ⟨_, h2⟩ | ⟨a, cap, rfl, _⟩
      · cases h2
      · exact ⟨a, cap, rfl⟩
    obtain ⟨a, cap, rfl⟩ := hv
    have hpos : ((((h :: l).length : Nat) : Int) == 0) = false := by rw [beq_eq_false_iff_ne]; simp; omega
    generalize (h :: l).length = n at hb hpos ⊢
    unfold boxV at hb hs
    clear hl hn hr hnr e
    go_enter Tryz.func119, Tryz.ntmps119
    go_wp2_with (first
      | (go_at_call 26; refine hb.mono ?_; rintro e w2 ⟨rfl, hB2⟩)
      | (go_at_call 28; refine (hs _).mono ?_; rintro e w3 ⟨rfl, hB3⟩))
    go_ret
    exact ⟨rfl, hB2.trans (hB3.mono hB2.size)⟩
/-- Is it a set of at most so many cells in a box of at most so many? -/
def fewB (n vol : Int) (l : List Cel) : Bool := decide ((l.length : Int) ≤ n) && (decide (chkI l = 0) && decide (volB l ≤ vol))
theorem few_ok (l : List Cel) (v : Value) (n vol : Int) (w : World) (hl : Sl w v l) (hn : l.length ≤ maxLen) (hn4 : n ≤ 4096) :
    Calls Tryz.prog 57 #[v, .int .i64 n, .int .i64 vol] w fun e w' => e = .returned (.bool (fewB n vol l)) ∧ Below w.heap.size w w' := by
  have hck := refCheckG l v w hl hn
  have hvl : ∃ (A : Option Addr) (cap : Nat), v = .slice A l.length cap := by
    rcases hl with ⟨rfl, rfl⟩ | ⟨a, cap, rfl, _⟩
    · exact ⟨none, 0, rfl⟩
    · exact ⟨some a, cap, rfl⟩
  unfold fewB
  by_cases h1 : (l.length : Int) ≤ n
  · by_cases h2 : chkI l = 0
    · have hvo := fun W (h : Below w.heap.size w W) => volume_ok l v W (hl.below h) (by omega) (chkI_zero.1 h2).2.1
      rw [h2] at hck
      rw [decide_eq_true h1, decide_eq_true h2, Bool.true_and, Bool.true_and]
      obtain ⟨A, cap, rfl⟩ := hvl
      have hd : decide ((l.length : Int) ≤ n) = true := decide_eq_true h1
      generalize volB l = V at hvo ⊢
      clear hl h2 hn
      go_enter Tryz.func57, Tryz.ntmps57
      go_wp2_with (first
        | (go_at_call 11; refine hck.mono ?_; rintro e w2 ⟨rfl, hB2⟩)
        | (go_at_call 119; refine (hvo _ hB2).mono ?_; rintro e w3 ⟨rfl, hB3⟩))
      go_ret
      exact ⟨rfl, hB2.trans (hB3.mono hB2.size)⟩
    · rw [decide_eq_false h2, Bool.false_and, Bool.and_false]
      have hz : (chkI l == 0) = false := by rw [beq_eq_false_iff_ne]; exact h2
      obtain ⟨A, cap, rfl⟩ := hvl
      generalize chkI l = c at hck hz
      clear hl h2 hn
      go_enter Tryz.func57, Tryz.ntmps57
      go_wp2_with (go_at_call 11; refine hck.mono ?_; rintro e w2 ⟨rfl, hB2⟩)
      go_ret
      exact ⟨rfl, hB2⟩
  · rw [decide_eq_false h1, Bool.false_and]
    obtain ⟨A, cap, rfl⟩ := hvl
    clear hl hck hn
    go_enter Tryz.func57, Tryz.ntmps57
    go_wp2
    go_ret
    exact ⟨rfl, Below.refl _ _⟩
end Go.Proofs
