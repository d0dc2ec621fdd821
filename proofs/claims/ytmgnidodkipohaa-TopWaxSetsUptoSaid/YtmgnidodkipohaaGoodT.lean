/- Sets of cells within a bound, and turned. -/
import Derived.Test.YtmgnidodkipohaaTurn
namespace Go.Proofs
open Go.RowKit Go.AM
set_option maxRecDepth 1000000
set_option maxHeartbeats 4000000
theorem asc_sortC {l : List Cel} (h : l.Nodup) : Asc (sortC l) := by
  intro i a b ha hb
  have hne := sortC_nodup h i a b ha hb
  have tr : ∀ a b c : Cel, (!ltC b a) = true → (!ltC c b) = true → (!ltC c a) = true := fun a b c h1 h2 => by
    simp only [Bool.not_eq_true'] at *
    exact swoC.ntrans c b a h2 h1
  have tot : ∀ a b : Cel, ((!ltC b a) || (!ltC a b)) = true := fun a b => by
    cases h1 : ltC b a with
    | false => rfl
    | true =>
      cases h2 : ltC a b with
      | false => rfl
      | true =>
        have := swoC.trans a b a h2 h1
        rw [swoC.irrefl] at this
        cases this
  have hp := List.pairwise_mergeSort (le := fun x y => !ltC y x) tr tot l
  obtain ⟨i1, e1⟩ := List.getElem?_eq_some_iff.1 ha
  obtain ⟨i2, e2⟩ := List.getElem?_eq_some_iff.1 hb
  have h1 := List.pairwise_iff_getElem.1 hp i (i+1) i1 i2 (Nat.lt_succ_self i)
  have e1' : (l.mergeSort fun x y => !ltC y x)[i] = a := e1
  have e2' : (l.mergeSort fun x y => !ltC y x)[i+1] = b := e2
  rw [e1', e2'] at h1
  have hba : ltC b a = false := by simpa using h1
  cases hab : ltC a b with
  | true => exact (cmp3_lt a b).2 hab
  | false => exact absurd (antiC a b hab hba) hne
theorem vec_of {c : Cel} {n : Int} (h : (-n ≤ c.1 ∧ c.1 ≤ n) ∧ (-n ≤ c.2.1 ∧ c.2.1 ≤ n) ∧ (-n ≤ c.2.2 ∧ c.2.2 ≤ n)) : vecI c n = 0 := by
  unfold vecI withinI
  rw [if_neg (by omega), if_neg (by omega), if_neg (by omega)]
  rfl
theorem mem_sortC {l : List Cel} {c : Cel} : c ∈ sortC l ↔ c ∈ l := (List.mergeSort_perm _ _).mem_iff
def turnB (k : Nat) (o : Cel) : Cel → Cel := turnC (turnA k).1 (turnA k).2.1 (turnA k).2.2 o
theorem nodup_map {f : Cel → Cel} (hf : ∀ p q, f p = f q → p = q) {l : List Cel} (h : l.Nodup) : (l.map f).Nodup :=
  List.Pairwise.map f (fun a b hab e => hab (hf a b e)) h
theorem nodup_sortC {l : List Cel} (h : l.Nodup) : (sortC l).Nodup := (List.mergeSort_perm _ _).nodup_iff.2 h
theorem turnB_inj {k : Nat} (hk : k < 24) (o p q : Cel) (h : turnB k o p = turnB k o q) : p = q := by
  obtain ⟨x, y, z⟩ := p
  obtain ⟨x', y', z'⟩ := q
  obtain ⟨a, b, c⟩ := o
  obtain rfl | rfl | rfl | rfl | rfl | rfl | rfl | rfl | rfl | rfl | rfl | rfl | rfl | rfl | rfl | rfl | rfl | rfl | rfl | rfl | rfl | rfl | rfl | rfl : k = 0 ∨ k = 1 ∨ k = 2 ∨ k = 3 ∨ k = 4 ∨ k = 5 ∨ k = 6 ∨ k = 7 ∨ k = 8 ∨ k = 9 ∨ k = 10 ∨ k = 11 ∨ k = 12 ∨ k = 13 ∨ k = 14 ∨ k = 15 ∨ k = 16 ∨ k = 17 ∨ k = 18 ∨ k = 19 ∨ k = 20 ∨ k = 21 ∨ k = 22 ∨ k = 23 := by omega
  all_goals simp [turnB, turnA, turnT, turnC, pickI] at h ⊢
  all_goals omega
theorem turnA_lt {k : Nat} (hk : k < 24) : (turnA k).1 < 6 ∧ (turnA k).2.1 < 6 ∧ (turnA k).2.2 < 6 := by
  have : ∀ k, k < 24 → (turnA k).1 < 6 ∧ (turnA k).2.1 < 6 ∧ (turnA k).2.2 < 6 := by decide
  exact this k hk
def Near (c : Cel) (b : Int) : Prop := (-b ≤ c.1 ∧ c.1 ≤ b) ∧ (-b ≤ c.2.1 ∧ c.2.1 ≤ b) ∧ (-b ≤ c.2.2 ∧ c.2.2 ≤ b)
/-- A set of cells within b of the middle. -/
structure Good (l : List Cel) (b : Int) : Prop where
  nd : l.Nodup
  asc : Asc l
  near : ∀ c ∈ l, Near c b
theorem Near.mono {c : Cel} {a b : Int} (h : Near c a) (hab : a ≤ b) : Near c b := by
  unfold Near at *
  omega
theorem Good.mono {l : List Cel} {a b : Int} (h : Good l a) (hab : a ≤ b) : Good l b := ⟨h.nd, h.asc, fun c hc => (h.near c hc).mono hab⟩
theorem Good.sort {l : List Cel} {b : Int} (h : l.Nodup) (hn : ∀ c ∈ l, Near c b) : Good (sortC l) b := ⟨nodup_sortC h, asc_sortC h, fun c hc => hn c (mem_sortC.1 hc)⟩
theorem Good.fit {l : List Cel} {b : Int} (h : Good l b) (hb : b ≤ 1000) : ∀ c ∈ l, vecI c 1000 = 0 := fun c hc => vec_of ((h.near c hc).mono hb)
theorem farB_near {c : Cel} {b : Int} (h : Near c b) (hb : b ≤ 1000) : farB c.1 1000 = false ∧ farB c.2.1 1000 = false ∧ farB c.2.2 1000 = false := by
  unfold Near at h
  unfold farB
  refine ⟨decide_eq_false ?_, decide_eq_false ?_, decide_eq_false ?_⟩ <;> omega
theorem turnB_near {k : Nat} {o p : Cel} {b d : Int} (hp : Near p b) (ho : Near o d) : Near (turnB k o p) (b + 2 * d) := by
  unfold Near at *
  have e : ∀ a, -(b + d) ≤ pickI (p.1 - o.1) (p.2.1 - o.2.1) (p.2.2 - o.2.2) a ∧ pickI (p.1 - o.1) (p.2.1 - o.2.1) (p.2.2 - o.2.2) a ≤ b + d := pickI_le (by omega) (by omega) (by omega)
  have e1 := e (turnA k).1
  have e2 := e (turnA k).2.1
  have e3 := e (turnA k).2.2
  unfold turnB turnC
  dsimp only
  omega
theorem near_map {f : Cel → Cel} {l : List Cel} {b : Int} (h : ∀ c ∈ l, Near (f c) b) : ∀ c ∈ l.map f, Near c b := fun c hc => by
  obtain ⟨p, hp, rfl⟩ := List.mem_map.1 hc
  exact h p hp
theorem gTurn {l : List Cel} {b d : Int} (hg : Good l b) {o : Cel} (ho : Near o d) (hd : b + 2 * d ≤ 1000) (hb0 : b ≤ 1000) (hd0 : d ≤ 1000) (hn : l.length ≤ 4096) {k : Nat} (hk : k < 24) {blk off cap : Nat} {w : World} (hl : RowAt w blk off l) (hb : blk < w.heap.size) :
    Good (sortC (l.map (turnB k o))) (b + 2 * d) ∧ Calls Try.prog 21 #[.slice (some ⟨blk, off, none⟩) l.length cap, .int .i64 k, .agg #[.int .i64 o.1, .int .i64 o.2.1, .int .i64 o.2.2]] w fun e w' => ∃ B, e = .returned (.tuple #[.slice (some ⟨B, 0, none⟩) l.length l.length, .int .i64 0]) ∧ w.heap.size ≤ B ∧ Filled w' B l.length 32 (sortC (l.map (turnB k o))) ∧ Below w.heap.size w w' := by
  have hnd := nodup_map (turnB_inj hk o) hg.nd
  have hnr := near_map (f := turnB k o) fun c hc => turnB_near (k := k) (hg.near c hc) ho
  exact ⟨.sort hnd hnr, turn_ok l blk off cap k hk o w hl hb hn (hg.fit hb0) hg.asc (vec_of (ho.mono hd0)) (turnA_lt hk) (ho.mono hd0) (fun c hc => vec_of ((hnr c hc).mono hd)) hnd (fun c hc => (hg.near c hc).mono hb0)⟩
end Go.Proofs
