import Derived.Test.YtmgnidodkipohaaPure3
import Derived.Test.YtmgnidodkipohaaRefD
namespace Go.Proofs
open Go.RowKit
set_option maxRecDepth 1000000
/-! The contracts of the moves for a set that fills a block. -/
theorem mirrorF {l : List Cel} {b : Int} (hg : Good l b) (hb0 : b ≤ 1000) {n : Nat} (hl : l.length = n) (hn : n ≤ 4096) {j : Nat} (hj : j < 3) {J : Int} (hJ : J = j) {B : Nat} {w : World} (hF : Filled w B n 32 l) :
    Calls Try.prog 23 #[.slice (some ⟨B, 0, none⟩) n n, .int .i64 J, .int .i64 0] w fun e w' => ∃ B', e = .returned (.tuple #[.slice (some ⟨B', 0, none⟩) n n, .int .i64 0]) ∧ Filled w' B' n 32 (sortC (l.map (mirrorC j))) ∧ Below w.heap.size w w' := by
  subst hl hJ
  refine (gMirror hg hb0 hn hj hF.row hF.lt).2.mono ?_
  rintro e w' ⟨B', rfl, -, h1, h2⟩
  exact ⟨B', rfl, h1, h2⟩
theorem turnF {l : List Cel} {b d : Int} (hg : Good l b) {o : Cel} (ho : Near o d) (hd : b + 2 * d ≤ 1000) (hb0 : b ≤ 1000) (hd0 : d ≤ 1000) {n : Nat} (hl : l.length = n) (hn : n ≤ 4096) {k : Nat} (hk : k < 24) {K : Int} (hK : K = k) {B : Nat} {w : World} (hF : Filled w B n 32 l) {x y z : Int} (ho' : o = (x, y, z)) :
    Calls Try.prog 21 #[.slice (some ⟨B, 0, none⟩) n n, .int .i64 K, .agg #[.int .i64 x, .int .i64 y, .int .i64 z]] w fun e w' => ∃ B', e = .returned (.tuple #[.slice (some ⟨B', 0, none⟩) n n, .int .i64 0]) ∧ Filled w' B' n 32 (sortC (l.map (turnB k o))) ∧ Below w.heap.size w w' := by
  subst hl hK ho'
  refine (gTurn hg ho hd hb0 hd0 hn hk hF.row hF.lt).2.mono ?_
  rintro e w' ⟨B', rfl, -, h1, h2⟩
  exact ⟨B', rfl, h1, h2⟩
theorem shiftF {l : List Cel} {b d : Int} (hg : Good l b) {o : Cel} (ho : Near o d) (hd : b + d ≤ 1000) (hb0 : b ≤ 1000) (hd0 : d ≤ 2000) {n : Nat} (hl : l.length = n) (hn : n ≤ 4096) {B : Nat} {w : World} (hF : Filled w B n 32 l) {x y z : Int} (ho' : o = (x, y, z)) :
    Calls Try.prog 24 #[.slice (some ⟨B, 0, none⟩) n n, .agg #[.int .i64 x, .int .i64 y, .int .i64 z]] w fun e w' => ∃ B', e = .returned (.tuple #[.slice (some ⟨B', 0, none⟩) n n, .int .i64 0]) ∧ Filled w' B' n 32 (sortC (l.map (shiftC o))) ∧ Below w.heap.size w w' := by
  subst hl ho'
  refine (gShift hg ho hd hb0 hd0 hn hF.row hF.lt).2.mono ?_
  rintro e w' ⟨B', rfl, -, h1, h2⟩
  exact ⟨B', rfl, h1, h2⟩
theorem sameF {l m : List Cel} {n : Nat} (hl : l.length = n) (hm : m.length = n) (hn : n ≤ 4096) {B C : Nat} {w : World} (hF : Filled w B n 32 l) (hG : Filled w C n 32 m) :
    Calls Try.prog 18 #[.slice (some ⟨B, 0, none⟩) n n, .slice (some ⟨C, 0, none⟩) n n] w fun e w' => e = .returned (.bool (decide (l = m))) ∧ Below w.heap.size w w' := by
  subst hl
  have h := sameCells_ok l m B 0 l.length C 0 l.length w hF.row hG.row hn
  rw [hm] at h
  refine h.mono ?_
  rintro e w' ⟨rfl, q, rfl⟩
  exact ⟨rfl, ⟨rfl, rfl, rfl, Nat.le_refl _, fun _ _ => rfl⟩⟩
theorem farB_good {l : List Cel} {b : Int} (hg : Good l b) (hb : b ≤ 1000) : ∀ c ∈ l, farB c.1 1000 = false ∧ farB c.2.1 1000 = false ∧ farB c.2.2 1000 = false := fun c hc => farB_near (hg.near c hc) hb
theorem refCheckF {l : List Cel} {b : Int} (hg : Good l b) (hb0 : b ≤ 1000) {n : Nat} (hl : l.length = n) (hn : n ≤ 4096) {B : Nat} {w : World} (hF : Filled w B n 32 l) :
    Calls Try.prog 14 #[.slice (some ⟨B, 0, none⟩) n n] w fun e w' => e = .returned (.int .i64 0) ∧ Below w.heap.size w w' := by
  subst hl
  exact refCheck_ok l B 0 l.length w hF.row hF.lt hn (farB_good hg hb0) hg.asc
theorem tmod3 {n : Nat} (a r : Nat) (h : (n + a) % 3 = r) : ((n : Int) + a).tmod 3 = r := by
  subst h
  rfl
theorem halfN_lt (j : Nat) : halfN j < 24 := by
  unfold halfN
  match j with
  | 0 => decide
  | 1 => decide
  | 2 => decide
  | j + 3 => simp
theorem rem_facts (n : Nat) : (((n : Int).tmod 3 = 0 ∧ ((n : Int) + 1).tmod 3 = 1 ∧ ((n : Int) + 2).tmod 3 = 2) ∧ ((1 : Int) = ((n + 1) % 3 : Nat) ∧ (2 : Int) = ((n + 2) % 3 : Nat) ∧ (1 : Int) = halfN (n % 3))) ∨ (((n : Int).tmod 3 = 1 ∧ ((n : Int) + 1).tmod 3 = 2 ∧ ((n : Int) + 2).tmod 3 = 0) ∧ ((2 : Int) = ((n + 1) % 3 : Nat) ∧ (0 : Int) = ((n + 2) % 3 : Nat) ∧ (4 : Int) = halfN (n % 3))) ∨ (((n : Int).tmod 3 = 2 ∧ ((n : Int) + 1).tmod 3 = 0 ∧ ((n : Int) + 2).tmod 3 = 1) ∧ ((0 : Int) = ((n + 1) % 3 : Nat) ∧ (1 : Int) = ((n + 2) % 3 : Nat) ∧ (5 : Int) = halfN (n % 3))) := by
  have e0 := tmod3 (n := n) 0 _ rfl
  have e1 := tmod3 (n := n) 1 _ rfl
  have e2 := tmod3 (n := n) 2 _ rfl
  simp only [Int.natCast_zero, Int.add_zero, Nat.add_zero] at e0
  simp only [Int.natCast_one] at e1
  rcases rem_cases n with ⟨g0, g1, g2⟩ | ⟨g0, g1, g2⟩ | ⟨g0, g1, g2⟩
  · refine .inl ⟨⟨?_, ?_, ?_⟩, ?_, ?_, ?_⟩
    · rw [e0, g0]; rfl
    · rw [e1, g1]; rfl
    · exact e2.trans (by rw [g2]; rfl)
    · rw [g1]; rfl
    · rw [g2]; rfl
    · rw [g0]; rfl
  · refine .inr (.inl ⟨⟨?_, ?_, ?_⟩, ?_, ?_, ?_⟩)
    · rw [e0, g0]; rfl
    · rw [e1, g1]; rfl
    · exact e2.trans (by rw [g2]; rfl)
    · rw [g1]; rfl
    · rw [g2]; rfl
    · rw [g0]; rfl
  · refine .inr (.inr ⟨⟨?_, ?_, ?_⟩, ?_, ?_, ?_⟩)
    · rw [e0, g0]; rfl
    · rw [e1, g1]; rfl
    · exact e2.trans (by rw [g2]; rfl)
    · rw [g1]; rfl
    · rw [g2]; rfl
    · rw [g0]; rfl
theorem good_mirror {l : List Cel} {b : Int} (h : Good l b) (j : Nat) : Good (sortC (l.map (mirrorC j))) b := .sort (nodup_map (mirrorC_inj j) h.nd) (near_map fun c hc => mirrorC_near (h.near c hc))
theorem good_turn {l : List Cel} {b d : Int} (h : Good l b) {k : Nat} (hk : k < 24) {o : Cel} (ho : Near o d) : Good (sortC (l.map (turnB k o))) (b + 2 * d) := .sort (nodup_map (turnB_inj hk o) h.nd) (near_map fun c hc => turnB_near (h.near c hc) ho)
theorem good_shift {l : List Cel} {b d : Int} (h : Good l b) {o : Cel} (ho : Near o d) : Good (sortC (l.map (shiftC o))) (b + d) := .sort (nodup_map (shiftC_inj o) h.nd) (near_map fun c hc => shiftC_near (h.near c hc) ho)
theorem len_sort_map (l : List Cel) (f : Cel → Cel) {n : Nat} (h : l.length = n) : (sortC (l.map f)).length = n := by rw [sortC_len, List.length_map, h]
end Go.Proofs
