import Derived.Test.YtllameiilljelaaTurn
import Derived.Test.YtllameiilljelaaChkZ
import Derived.Test.YtllameiilljelaaBoundR
section
/- Sets of cells within a bound, and turned. -/
namespace Go.Proofs
open Go.RowKit Go.AM
set_option maxRecDepth 1000000
set_option maxHeartbeats 4000000
theorem asc_sortC {l : List Cel} (h : l.Nodup) : Asc (sortC l) := by
  intro i a b ha hb
  have hne := sortC_nodup h i a b ha hb
  have tr : ∀ a b c : Cel, (!ltC b a) = true → (!ltC c b) = true → (!ltC c a) = true := fun a b c h1 h2 => by
    simp only [Bool.not_eq_true'] at *
    exact swoC.ntrans c b a h2 h1
  have tot : ∀ a b : Cel, ((!ltC b a) || (!ltC a b)) = true := fun a b => by
    cases h1 : ltC b a with
    | false => rfl
    | true =>
      cases h2 : ltC a b with
      | false => rfl
      | true =>
        have := swoC.trans a b a h2 h1
        rw [swoC.irrefl] at this
        cases this
  have hp := List.pairwise_mergeSort (le := fun x y => !ltC y x) tr tot l
  obtain ⟨i1, e1⟩ := List.getElem?_eq_some_iff.1 ha
  obtain ⟨i2, e2⟩ := List.getElem?_eq_some_iff.1 hb
  have h1 := List.pairwise_iff_getElem.1 hp i (i+1) i1 i2 (Nat.lt_succ_self i)
  have e1' : (l.mergeSort fun x y => !ltC y x)[i] = a := e1
  have e2' : (l.mergeSort fun x y => !ltC y x)[i+1] = b := e2
  rw [e1', e2'] at h1
  have hba : ltC b a = false := by simpa using h1
  cases hab : ltC a b with
  | true => exact (cmp3_lt a b).2 hab
  | false => exact absurd (antiC a b hab hba) hne
theorem vec_of {c : Cel} {n : Int} (h : (-n ≤ c.1 ∧ c.1 ≤ n) ∧ (-n ≤ c.2.1 ∧ c.2.1 ≤ n) ∧ (-n ≤ c.2.2 ∧ c.2.2 ≤ n)) : vecI c n = 0 := by
  unfold vecI withinI
  rw [if_neg (by omega), if_neg (by omega), if_neg (by omega)]
  rfl
theorem mem_sortC {l : List Cel} {c : Cel} : c ∈ sortC l ↔ c ∈ l := (List.mergeSort_perm _ _).mem_iff
def turnB (k : Nat) (o : Cel) : Cel → Cel := turnC (turnA k).1 (turnA k).2.1 (turnA k).2.2 o
theorem nodup_map {f : Cel → Cel} (hf : ∀ p q, f p = f q → p = q) {l : List Cel} (h : l.Nodup) : (l.map f).Nodup :=
  List.Pairwise.map f (fun a b hab e => hab (hf a b e)) h
theorem nodup_sortC {l : List Cel} (h : l.Nodup) : (sortC l).Nodup := (List.mergeSort_perm _ _).nodup_iff.2 h
theorem turnB_inj {k : Nat} (hk : k < 24) (o p q : Cel) (h : turnB k o p = turnB k o q) : p = q := by
  obtain ⟨x, y, z⟩ := p
  obtain ⟨x', y', z'⟩ := q
  obtain ⟨a, b, c⟩ := o
  obtain rfl | rfl | rfl | rfl | rfl | rfl | rfl | rfl | rfl | rfl | rfl | rfl | rfl | rfl | rfl | rfl | rfl | rfl | rfl | rfl | rfl | rfl | rfl | rfl : k = 0 ∨ k = 1 ∨ k = 2 ∨ k = 3 ∨ k = 4 ∨ k = 5 ∨ k = 6 ∨ k = 7 ∨ k = 8 ∨ k = 9 ∨ k = 10 ∨ k = 11 ∨ k = 12 ∨ k = 13 ∨ k = 14 ∨ k = 15 ∨ k = 16 ∨ k = 17 ∨ k = 18 ∨ k = 19 ∨ k = 20 ∨ k = 21 ∨ k = 22 ∨ k = 23 := by omega
  all_goals simp [turnB, turnA, turnT, turnC, pickI] at h ⊢
  all_goals omega
theorem turnA_lt {k : Nat} (hk : k < 24) : (turnA k).1 < 6 ∧ (turnA k).2.1 < 6 ∧ (turnA k).2.2 < 6 := by
  have : ∀ k, k < 24 → (turnA k).1 < 6 ∧ (turnA k).2.1 < 6 ∧ (turnA k).2.2 < 6 := by decide
  exact this k hk
def Near (c : Cel) (b : Int) : Prop := (-b ≤ c.1 ∧ c.1 ≤ b) ∧ (-b ≤ c.2.1 ∧ c.2.1 ≤ b) ∧ (-b ≤ c.2.2 ∧ c.2.2 ≤ b)
/-- A set of cells within b of the middle. -/
structure Good (l : List Cel) (b : Int) : Prop where
  nd : l.Nodup
  asc : Asc l
  near : ∀ c ∈ l, Near c b
theorem Near.mono {c : Cel} {a b : Int} (h : Near c a) (hab : a ≤ b) : Near c b := by
  unfold Near at *
  omega
theorem Good.mono {l : List Cel} {a b : Int} (h : Good l a) (hab : a ≤ b) : Good l b := ⟨h.nd, h.asc, fun c hc => (h.near c hc).mono hab⟩
theorem Good.sort {l : List Cel} {b : Int} (h : l.Nodup) (hn : ∀ c ∈ l, Near c b) : Good (sortC l) b := ⟨nodup_sortC h, asc_sortC h, fun c hc => hn c (mem_sortC.1 hc)⟩
theorem Good.fit {l : List Cel} {b : Int} (h : Good l b) (hb : b ≤ 1000) : ∀ c ∈ l, vecI c 1000 = 0 := fun c hc => vec_of ((h.near c hc).mono hb)
theorem farB_near {c : Cel} {b : Int} (h : Near c b) (hb : b ≤ 1000) : farB c.1 1000 = false ∧ farB c.2.1 1000 = false ∧ farB c.2.2 1000 = false := by
  unfold Near at h
  unfold farB
  refine ⟨decide_eq_false ?_, decide_eq_false ?_, decide_eq_false ?_⟩ <;> omega
theorem turnB_near {k : Nat} {o p : Cel} {b d : Int} (hp : Near p b) (ho : Near o d) : Near (turnB k o p) (b + 2 * d) := by
  unfold Near at *
  have e : ∀ a, -(b + d) ≤ pickI (p.1 - o.1) (p.2.1 - o.2.1) (p.2.2 - o.2.2) a ∧ pickI (p.1 - o.1) (p.2.1 - o.2.1) (p.2.2 - o.2.2) a ≤ b + d := pickI_le (by omega) (by omega) (by omega)
  have e1 := e (turnA k).1
  have e2 := e (turnA k).2.1
  have e3 := e (turnA k).2.2
  unfold turnB turnC
  dsimp only
  omega
theorem near_map {f : Cel → Cel} {l : List Cel} {b : Int} (h : ∀ c ∈ l, Near (f c) b) : ∀ c ∈ l.map f, Near c b := fun c hc => by
  obtain ⟨p, hp, rfl⟩ := List.mem_map.1 hc
  exact h p hp
theorem gTurn {l : List Cel} {b d : Int} (hg : Good l b) {o : Cel} (ho : Near o d) (hd : b + 2 * d ≤ 1000) (hb0 : b ≤ 1000) (hd0 : d ≤ 1000) (hn : l.length ≤ 4096) {k : Nat} (hk : k < 24) {blk off cap : Nat} {w : World} (hl : RowAt w blk off l) (hb : blk < w.heap.size) :
    Good (sortC (l.map (turnB k o))) (b + 2 * d) ∧ Calls Try.prog 15 #[.slice (some ⟨blk, off, none⟩) l.length cap, .int .i64 k, .agg #[.int .i64 o.1, .int .i64 o.2.1, .int .i64 o.2.2]] w fun e w' => ∃ B, e = .returned (.tuple #[.slice (some ⟨B, 0, none⟩) l.length l.length, .int .i64 0]) ∧ w.heap.size ≤ B ∧ Filled w' B l.length 26 (sortC (l.map (turnB k o))) ∧ Below w.heap.size w w' := by
  have hnd := nodup_map (turnB_inj hk o) hg.nd
  have hnr := near_map (f := turnB k o) fun c hc => turnB_near (k := k) (hg.near c hc) ho
  exact ⟨.sort hnd hnr, turn_ok l blk off cap k hk o w hl hb hn (hg.fit hb0) hg.asc (vec_of (ho.mono hd0)) (turnA_lt hk) (ho.mono hd0) (fun c hc => vec_of ((hnr c hc).mono hd)) hnd (fun c hc => (hg.near c hc).mono hb0)⟩
end Go.Proofs
end

section
/- The reference's Size, Volume and FewCells. -/
namespace Go.Proofs
open Go.RowKit
set_option maxHeartbeats 8000000
set_option maxRecDepth 1000000
theorem badC_near {c : Cel} : badC c = false ↔ Near c 1000 := by
  unfold badC farB Near
  simp only [Bool.or_eq_false_iff, decide_eq_false_iff_not]
  omega
theorem up_asc {l : List Cel} (h : Up l) : Asc l := fun i a b ha hb => (cmp3_lt a b).2 (up_get h ha hb (Nat.lt_succ_self i))
/-- A set as the document has it: ascending, within the limits. -/
theorem chkI_zero {l : List Cel} : chkI l = 0 ↔ l.length ≤ 4096 ∧ (∀ c ∈ l, Near c 1000) ∧ Up l := by
  unfold chkI
  split
  · rename_i h
    constructor
    · intro e; cases e
    · intro e; omega
  · rename_i h
    constructor
    · intro e
      obtain ⟨h1, _, h3⟩ := chkFrom_zero l none e
      exact ⟨by omega, fun c hc => badC_near.1 (h1 c hc), h3⟩
    · rintro ⟨_, h2, h3⟩
      exact chkFrom_of l none (fun c hc => badC_near.2 (h2 c hc)) (fun q hq => by cases hq) h3
theorem up_good {l : List Cel} {b : Int} (h : Up l) (hn : ∀ c ∈ l, Near c b) : Good l b := ⟨up_nodup h, up_asc h, hn⟩
/-- How many cells a box has. -/
def sizeB (b : Cel × Cel) : Int := (b.2.1 - b.1.1 + 1) * (b.2.2.1 - b.1.2.1 + 1) * (b.2.2.2 - b.1.2.2 + 1)
theorem bnd_near {b : Int} : ∀ (l : List Cel) (B : Cel × Cel), (Near B.1 b ∧ Near B.2 b) → (∀ c ∈ l, Near c b) → Near (l.foldl bndS B).1 b ∧ Near (l.foldl bndS B).2 b
  | [], _, h, _ => h
  | c :: l, B, h, hl => by
    refine bnd_near l (bndS B c) ?_ (fun x hx => hl x (List.mem_cons_of_mem _ hx))
    have hc := hl c (List.mem_cons_self ..)
    unfold Near at *
    unfold bndS
    dsimp only
    omega
theorem size_ok (b : Cel × Cel) (h1 : Near b.1 1000) (h2 : Near b.2 1000) (w : World) :
    Calls Try.prog 36 #[boxV b] w fun e w' => e = .returned (.int .i64 (sizeB b)) ∧ Below w.heap.size w w' := by
  obtain ⟨⟨lx, ly, lz⟩, ⟨ux, uy, uz⟩⟩ := b
  unfold Near at h1 h2
  unfold boxV sizeB
  dsimp only at h1 h2 ⊢
  have a1 := wrapL (n := ux - lx) (by omega)
  have a2 := wrapL (n := ux - lx + 1) (by omega)
  have b1 := wrapL (n := uy - ly) (by omega)
  have b2 := wrapL (n := uy - ly + 1) (by omega)
  have c1 := wrapL (n := uz - lz) (by omega)
  have c2 := wrapL (n := uz - lz + 1) (by omega)
  have hp : ∀ p q : Int, -3000 ≤ p → p ≤ 3000 → -3000 ≤ q → q ≤ 3000 → -9000000 ≤ p * q ∧ p * q ≤ 9000000 := fun p q h1 h2 h3 h4 => by
    have e1 : p * q ≤ 3000 * 3000 := by
      have := Int.mul_nonneg (a := 3000 - p) (b := 3000 + q) (by omega) (by omega)
      have := Int.mul_nonneg (a := 3000 + p) (b := 3000 - q) (by omega) (by omega)
      simp only [Int.sub_mul, Int.add_mul, Int.mul_sub, Int.mul_add] at *
      omega
    have e2 : -(3000 * 3000) ≤ p * q := by
      have := Int.mul_nonneg (a := 3000 - p) (b := 3000 - q) (by omega) (by omega)
      have := Int.mul_nonneg (a := 3000 + p) (b := 3000 + q) (by omega) (by omega)
      simp only [Int.sub_mul, Int.add_mul, Int.mul_sub, Int.mul_add] at *
      omega
    omega
  have hq : ∀ p q : Int, -9000000 ≤ p → p ≤ 9000000 → -3000 ≤ q → q ≤ 3000 → -30000000000 ≤ p * q ∧ p * q ≤ 30000000000 := fun p q h1 h2 h3 h4 => by
    have e1 : p * q ≤ 9000000 * 3000 := by
      have := Int.mul_nonneg (a := 9000000 - p) (b := 3000 + q) (by omega) (by omega)
      have := Int.mul_nonneg (a := 9000000 + p) (b := 3000 - q) (by omega) (by omega)
      simp only [Int.sub_mul, Int.add_mul, Int.mul_sub, Int.mul_add] at *
      omega
    have e2 : -(9000000 * 3000) ≤ p * q := by
      have := Int.mul_nonneg (a := 9000000 - p) (b := 3000 - q) (by omega) (by omega)
      have := Int.mul_nonneg (a := 9000000 + p) (b := 3000 + q) (by omega) (by omega)
      simp only [Int.sub_mul, Int.add_mul, Int.mul_sub, Int.mul_add] at *
      omega
    omega
  have p1 := hp (ux - lx + 1) (uy - ly + 1) (by omega) (by omega) (by omega) (by omega)
  have p2 := hq ((ux - lx + 1) * (uy - ly + 1)) (uz - lz + 1) p1.1 p1.2 (by omega) (by omega)
  have d1 := wrapL (n := (ux - lx + 1) * (uy - ly + 1)) (by omega)
  have d2 := wrapL (n := (ux - lx + 1) * (uy - ly + 1) * (uz - lz + 1)) (by omega)
  clear hp hq p1 p2 h1 h2
  go_enter Try.func36, Try.ntmps36
  go_wp2
  go_ret
  exact ⟨rfl, (Below.refl _ _).alloc (Nat.le_refl _) _⟩
def volB (l : List Cel) : Int := match l with
  | [] => 0
  | h :: _ => sizeB (bndK h l l.length)
theorem volume_ok (l : List Cel) (v : Value) (w : World) (hl : Sl w v l) (hn : l.length ≤ 4096) (hr : ∀ c ∈ l, Near c 1000) :
    Calls Try.prog 12 #[v] w fun e w' => e = .returned (.int .i64 (volB l)) ∧ Below w.heap.size w w' := by
  cases l with
  | nil =>
    rcases hl with ⟨rfl, _⟩ | ⟨a, cap, rfl, _⟩
    · go_enter Try.func12, Try.ntmps12
      go_wp2
      go_ret
      exact ⟨rfl, Below.refl _ _⟩
    · go_enter Try.func12, Try.ntmps12
      go_wp2
      go_ret
      exact ⟨rfl, Below.refl _ _⟩
  | cons h l =>
    have hb := refBound_ok (h :: l) h v w hl rfl (by omega)
    have hnr : Near (bndK h (h :: l) (h :: l).length).1 1000 ∧ Near (bndK h (h :: l) (h :: l).length).2 1000 := by
      unfold bndK
      rw [List.take_length]
      exact bnd_near (h :: l) (h, h) ⟨hr h (List.mem_cons_self ..), hr h (List.mem_cons_self ..)⟩ hr
    have hs := fun W => size_ok (bndK h (h :: l) (h :: l).length) hnr.1 hnr.2 W
    have e : volB (h :: l) = sizeB (bndK h (h :: l) (h :: l).length) := rfl
    rw [e]
    generalize bndK h (h :: l) (h :: l).length = B at hb hs ⊢
    have hv : ∃ (a : Addr) (cap : Nat), v = .slice (some a) (h :: l).length cap := by
      rcases hl with ⟨_, h2⟩ | ⟨a, cap, rfl, _⟩
      · cases h2
      · exact ⟨a, cap, rfl⟩
    obtain ⟨a, cap, rfl⟩ := hv
    have hpos : ((((h :: l).length : Nat) : Int) == 0) = false := by rw [beq_eq_false_iff_ne]; simp; omega
    generalize (h :: l).length = n at hb hpos ⊢
    unfold boxV at hb hs
    clear hl hn hr hnr e
    go_enter Try.func12, Try.ntmps12
    go_wp2_with (first
      | (go_at_call 35; refine hb.mono ?_; rintro e w2 ⟨rfl, hB2⟩)
      | (go_at_call 36; refine (hs _).mono ?_; rintro e w3 ⟨rfl, hB3⟩))
    go_ret
    exact ⟨rfl, hB2.trans (hB3.mono hB2.size)⟩
/-- Is it a set of at most so many cells in a box of at most so many? -/
def fewB (n vol : Int) (l : List Cel) : Bool := decide ((l.length : Int) ≤ n) && (decide (chkI l = 0) && decide (volB l ≤ vol))
theorem few_ok (l : List Cel) (v : Value) (n vol : Int) (w : World) (hl : Sl w v l) (hn : l.length ≤ maxLen) (hn4 : n ≤ 4096) :
    Calls Try.prog 4 #[v, .int .i64 n, .int .i64 vol] w fun e w' => e = .returned (.bool (fewB n vol l)) ∧ Below w.heap.size w w' := by
  have hck := refCheckG l v w hl hn
  have hvl : ∃ (A : Option Addr) (cap : Nat), v = .slice A l.length cap := by
    rcases hl with ⟨rfl, rfl⟩ | ⟨a, cap, rfl, _⟩
    · exact ⟨none, 0, rfl⟩
    · exact ⟨some a, cap, rfl⟩
  unfold fewB
  by_cases h1 : (l.length : Int) ≤ n
  · by_cases h2 : chkI l = 0
    · have hvo := fun W (h : Below w.heap.size w W) => volume_ok l v W (hl.below h) (by omega) (chkI_zero.1 h2).2.1
      rw [h2] at hck
      rw [decide_eq_true h1, decide_eq_true h2, Bool.true_and, Bool.true_and]
      obtain ⟨A, cap, rfl⟩ := hvl
      have hd : decide ((l.length : Int) ≤ n) = true := decide_eq_true h1
      generalize volB l = V at hvo ⊢
      clear hl h2 hn
      go_enter Try.func4, Try.ntmps4
      go_wp2_with (first
        | (go_at_call 11; refine hck.mono ?_; rintro e w2 ⟨rfl, hB2⟩)
        | (go_at_call 12; refine (hvo _ hB2).mono ?_; rintro e w3 ⟨rfl, hB3⟩))
      go_ret
      exact ⟨rfl, hB2.trans (hB3.mono hB2.size)⟩
    · rw [decide_eq_false h2, Bool.false_and, Bool.and_false]
      have hz : (chkI l == 0) = false := by rw [beq_eq_false_iff_ne]; exact h2
      obtain ⟨A, cap, rfl⟩ := hvl
      generalize chkI l = c at hck hz
      clear hl h2 hn
      go_enter Try.func4, Try.ntmps4
      go_wp2_with (go_at_call 11; refine hck.mono ?_; rintro e w2 ⟨rfl, hB2⟩)
      go_ret
      exact ⟨rfl, hB2⟩
  · rw [decide_eq_false h1, Bool.false_and]
    obtain ⟨A, cap, rfl⟩ := hvl
    clear hl hck hn
    go_enter Try.func4, Try.ntmps4
    go_wp2
    go_ret
    exact ⟨rfl, Below.refl _ _⟩
end Go.Proofs
end
