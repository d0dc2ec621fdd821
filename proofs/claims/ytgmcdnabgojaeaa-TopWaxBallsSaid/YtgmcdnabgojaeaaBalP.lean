/- TopWaxBalls: pure facts on grown and shrunk sets. -/
import Derived.Test.YtgmcdnabgojaeaaFine
import Derived.Test.YtgmcdnabgojaeaaBoxVol
import Derived.Test.YtgmcdnabgojaeaaSearch
namespace Go.Proofs
open Go.RowKit
set_option maxHeartbeats 8000000
set_option maxRecDepth 1000000
theorem Up.filter {l : List Cel} (h : Up l) (p : Cel → Bool) : Up (l.filter p) := List.Pairwise.filter p h
theorem chk_filter {l : List Cel} (h : chkI l = 0) (p : Cel → Bool) : chkI (l.filter p) = 0 := by
  obtain ⟨h1, h2, h3⟩ := chkI_zero.1 h
  exact chkI_zero.2 ⟨Nat.le_trans (List.length_filter_le ..) h1, fun c hc => h2 c (List.mem_filter.1 hc).1, h3.filter p⟩
theorem chk_box {b : Cel × Cel} (h1 : Near b.1 1000) (h2 : Near b.2 1000) (hw : Wide b) (hs : sizeB b ≤ 4096) : chkI (boxL b) = 0 := by
  refine chkI_zero.2 ⟨?_, fun c hc => ?_, up_boxL b⟩
  · have := len_boxL b hw
    omega
  · have := (mem_boxL b c).1 hc
    unfold Near at *
    omega
theorem bnd_in : ∀ (l : List Cel) (B : Cel × Cel) (c : Cel), (c ∈ l ∨ ((B.1.1 ≤ c.1 ∧ c.1 ≤ B.2.1) ∧ (B.1.2.1 ≤ c.2.1 ∧ c.2.1 ≤ B.2.2.1) ∧ (B.1.2.2 ≤ c.2.2 ∧ c.2.2 ≤ B.2.2.2))) →
    ((l.foldl bndS B).1.1 ≤ c.1 ∧ c.1 ≤ (l.foldl bndS B).2.1) ∧ ((l.foldl bndS B).1.2.1 ≤ c.2.1 ∧ c.2.1 ≤ (l.foldl bndS B).2.2.1) ∧ ((l.foldl bndS B).1.2.2 ≤ c.2.2 ∧ c.2.2 ≤ (l.foldl bndS B).2.2.2)
  | [], _, c, h => by
    rcases h with h | h
    · cases h
    · exact h
  | x :: l, B, c, h => by
    refine bnd_in l (bndS B x) c ?_
    rcases h with h | h
    · rcases List.mem_cons.1 h with rfl | h
      · right
        unfold bndS
        dsimp only
        omega
      · exact .inl h
    · right
      unfold bndS
      dsimp only
      omega
/-- A box that is wider by some cells at each side. -/
def wideB (k : Int) (b : Cel × Cel) : Cel × Cel := ((b.1.1 - k, b.1.2.1 - k, b.1.2.2 - k), (b.2.1 + k, b.2.2.1 + k, b.2.2.2 + k))
/-- The box of a set near the middle. -/
theorem bal_box {a : List Cel} {h : Cel} (hh : a[0]? = some h) (hn : ∀ c ∈ a, Near c 100) :
    Near (bndK h a a.length).1 100 ∧ Near (bndK h a a.length).2 100 ∧ Wide (bndK h a a.length) ∧ ∀ c ∈ a, c ∈ boxL (bndK h a a.length) := by
  cases a with
  | nil => cases hh
  | cons x u =>
    obtain rfl : x = h := by simpa using hh
    have h1 : bndK x (x :: u) (x :: u).length = (x :: u).foldl bndS (x, x) := by unfold bndK; rw [List.take_length]
    have hx := hn x (List.mem_cons_self ..)
    have h2 := bnd_near (b := 100) (x :: u) (x, x) ⟨hx, hx⟩ hn
    have h3 := bnd_in (x :: u) (x, x) x (.inl (List.mem_cons_self ..))
    rw [h1]
    unfold Wide
    exact ⟨h2.1, h2.2, by omega, fun c hc => (mem_boxL _ _).2 (bnd_in (x :: u) (x, x) c (.inl hc))⟩
theorem wide_mem {b : Cel × Cel} {c d : Cel} {k : Int} (hc : c ∈ boxL b) (h : distI c d ≤ k) : d ∈ boxL (wideB k b) := by
  have h1 := (mem_boxL _ _).1 hc
  refine (mem_boxL _ _).2 ?_
  unfold wideB
  unfold distI at h
  dsimp only at h1 ⊢
  omega
theorem wide_near {b : Cel × Cel} {m k : Int} (h1 : Near b.1 m) (h2 : Near b.2 m) (hw : Wide b) (hk : 0 ≤ k) : Near (wideB k b).1 (m + k) ∧ Near (wideB k b).2 (m + k) ∧ Wide (wideB k b) := by
  unfold Near Wide wideB at *
  dsimp only
  omega
/-- A block of at most 400 cells, at least five wide, has at most 4000 cells when it is two wider at each side. -/
theorem wide_size {b : Cel × Cel} (hw : Wide b) (h : sizeB (wideB 2 b) ≤ 400) : sizeB (wideB 2 (wideB 2 b)) ≤ 4000 := by
  unfold sizeB wideB at *
  unfold Wide at hw
  dsimp only at h ⊢
  generalize hp : b.2.1 + 2 - (b.1.1 - 2) + 1 = p at h
  generalize hq : b.2.2.1 + 2 - (b.1.2.1 - 2) + 1 = q at h
  generalize hr : b.2.2.2 + 2 - (b.1.2.2 - 2) + 1 = r at h
  rw [show b.2.1 + 2 + 2 - (b.1.1 - 2 - 2) + 1 = p + 4 by omega, show b.2.2.1 + 2 + 2 - (b.1.2.1 - 2 - 2) + 1 = q + 4 by omega, show b.2.2.2 + 2 + 2 - (b.1.2.2 - 2 - 2) + 1 = r + 4 by omega]
  have p5 : 5 ≤ p := by omega
  have q5 : 5 ≤ q := by omega
  have r5 : 5 ≤ r := by omega
  have a1 : (5 * (p + 4)) * (5 * (q + 4)) ≤ (9 * p) * (9 * q) := Int.mul_le_mul (by omega) (by omega) (by omega) (by omega)
  have a2 : (5 * (p + 4)) * (5 * (q + 4)) * (5 * (r + 4)) ≤ (9 * p) * (9 * q) * (9 * r) := Int.mul_le_mul a1 (by omega) (by omega) (Int.mul_nonneg (by omega) (by omega))
  have e1 : (5 * (p + 4)) * (5 * (q + 4)) * (5 * (r + 4)) = 125 * ((p + 4) * (q + 4) * (r + 4)) := by
    rw [show (5 * (p + 4)) * (5 * (q + 4)) = 25 * ((p + 4) * (q + 4)) by rw [Int.mul_assoc, Int.mul_left_comm (p + 4), ← Int.mul_assoc]; rfl, Int.mul_assoc 25, Int.mul_left_comm ((p + 4) * (q + 4)), ← Int.mul_assoc]; rfl
  have e2 : (9 * p) * (9 * q) * (9 * r) = 729 * (p * q * r) := by
    rw [show (9 * p) * (9 * q) = 81 * (p * q) by rw [Int.mul_assoc, Int.mul_left_comm p, ← Int.mul_assoc]; rfl, Int.mul_assoc 81, Int.mul_left_comm (p * q), ← Int.mul_assoc]; rfl
  rw [e1, e2] at a2
  omega
/-- What a grown part of a small block has is not much. -/
theorem rest_small {b : Cel × Cel} (hw : Wide b) (h : sizeB (wideB 2 b) ≤ 400) {rest : List Cel} (hr : ∀ c ∈ rest, c ∈ boxL (wideB 2 b)) {i : Nat} (hi : i ≤ 2) {S : List Cel} (hnd : S.Nodup) (hS : ∀ c ∈ S, c ∈ growN i rest) : S.length ≤ 4000 := by
  have h1 : S.length ≤ (boxL (wideB 2 (wideB 2 b))).length := nodup_len hnd fun c hc => by
    obtain ⟨p, hp, hd⟩ := grow_iff.1 (hS c hc)
    exact wide_mem (hr p hp) (by omega)
  have h2 := len_boxL (wideB 2 (wideB 2 b)) (by unfold Wide wideB at *; dsimp only; omega)
  have h3 := wide_size hw h
  omega
/-- What is left of the larger block when all that is not in the set is grown, is the shrunk set. -/
theorem left_eq {a out s : List Cel} {b : Cel × Cel} {n : Nat} (ha : ∀ c ∈ a, c ∈ boxL b) (hn : n ≤ 2) (ho : ∀ c, c ∈ out ↔ c ∈ growN n ((boxL (wideB 2 b)).filter fun c => !decide (c ∈ a))) (hua : Up a) (hs : s = shrN n a) :
    ((boxL (wideB 2 b)).filter fun c => !decide (c ∈ out)) = s := by
  subst hs
  refine up_ext ((up_boxL _).filter _) (hua.sublist (shr_sub n a)) fun c => ?_
  rw [List.mem_filter, shr_iff]
  simp only [Bool.not_eq_true', decide_eq_false_iff_not]
  constructor
  · rintro ⟨hc, hno⟩ d hd
    have key : ∀ p, p ∈ boxL (wideB 2 b) → distI p c ≤ n → p ∈ a := fun p hp hpd => by
      refine Classical.byContradiction fun hpa => hno ((ho c).2 (grow_iff.2 ⟨p, ?_, hpd⟩))
      exact List.mem_filter.2 ⟨hp, by simpa using hpa⟩
    have hca := key c hc (by rw [dist_self]; omega)
    exact key d (wide_mem (ha c hca) (by omega)) (by rw [dist_symm]; exact hd)
  · intro h
    have hca := h c (by rw [dist_self]; omega)
    refine ⟨wide_mem (ha c hca) (by rw [dist_self]; omega), fun hco => ?_⟩
    obtain ⟨p, hp, hpd⟩ := grow_iff.1 ((ho c).1 hco)
    have h1 := (List.mem_filter.1 hp).2
    rw [decide_eq_true (h p (by rw [dist_symm]; exact hpd))] at h1
    exact absurd h1 (by decide)
/-- The cells that are at most n steps from the middle. -/
def ballN (n : Nat) : List Cel := offs.filter fun o => decide (max o.1 (-o.1) + max o.2.1 (-o.2.1) + max o.2.2 (-o.2.2) ≤ (n : Int))
theorem ballN_len : (ballN 0).length = 1 ∧ (ballN 1).length = 7 ∧ (ballN 2).length = 25 := by decide +kernel
theorem ballN_nodup : (ballN 0).Nodup ∧ (ballN 1).Nodup ∧ (ballN 2).Nodup := by decide +kernel
theorem mem_ball {p c : Cel} {n : Nat} (hn : n ≤ 2) : c ∈ (ballN n).map (fun o => ((p.1 + o.1, p.2.1 + o.2.1, p.2.2 + o.2.2) : Cel)) ↔ distI p c ≤ n := by
  rw [List.mem_map]
  constructor
  · rintro ⟨o, ho, rfl⟩
    have := of_decide_eq_true (List.mem_filter.1 ho).2
    unfold distI
    dsimp only
    omega
  · intro h
    refine ⟨(c.1 - p.1, c.2.1 - p.2.1, c.2.2 - p.2.2), List.mem_filter.2 ⟨offs_mem ?_, decide_eq_true ?_⟩, ?_⟩
    · unfold distI at h
      omega
    · unfold distI at h
      dsimp only
      omega
    · obtain ⟨c1, c2, c3⟩ := c
      simp only [Prod.mk.injEq]
      omega
theorem map_nodup {α β : Type} {f : α → β} (hf : ∀ x y, f x = f y → x = y) : ∀ {l : List α}, l.Nodup → (l.map f).Nodup
  | [], _ => List.nodup_nil
  | x :: l, h => by
    rw [List.map_cons, List.nodup_cons]
    rw [List.nodup_cons] at h
    refine ⟨fun hm => ?_, map_nodup hf h.2⟩
    obtain ⟨y, hy, e⟩ := List.mem_map.1 hm
    exact h.1 (hf _ _ e ▸ hy)
theorem ball_count {p : Cel} {n : Nat} (hn : n ≤ 2) {X : List Cel} (hu : Up X) (hm : ∀ c, c ∈ X ↔ c ∈ growN n [p]) : X.length = (ballN n).length := by
  have hm' : ∀ c, c ∈ X ↔ c ∈ (ballN n).map (fun o => ((p.1 + o.1, p.2.1 + o.2.1, p.2.2 + o.2.2) : Cel)) := fun c => by
    rw [hm, mem_ball hn, grow_iff]
    exact ⟨fun ⟨q, hq, h⟩ => (List.mem_singleton.1 hq) ▸ h, fun h => ⟨p, List.mem_singleton.2 rfl, h⟩⟩
  have hnd : (ballN n).Nodup := by
    match n, hn with
    | 0, _ => exact ballN_nodup.1
    | 1, _ => exact ballN_nodup.2.1
    | 2, _ => exact ballN_nodup.2.2
  have h1 := nodup_len (up_nodup hu) fun c hc => (hm' c).1 hc
  have h2 := nodup_len (map_nodup (f := fun o : Cel => ((p.1 + o.1, p.2.1 + o.2.1, p.2.2 + o.2.2) : Cel)) (fun x y e => by
    obtain ⟨x1, x2, x3⟩ := x
    obtain ⟨y1, y2, y3⟩ := y
    simp only [Prod.mk.injEq] at e ⊢
    omega) hnd) fun c hc => (hm' c).2 hc
  rw [List.length_map] at h1 h2
  omega
theorem ball_num {n : Nat} (hn : n ≤ 2) : ((ballN n).length : Int) = ((4 * n * n * n + 6 * n * n + 8 * n + 3 : Nat) / 3 : Nat) ∧ (ballN n).length ≤ 25 := by
  obtain ⟨h0, h1, h2⟩ := ballN_len
  match n, hn with
  | 0, _ => rw [h0]; exact ⟨rfl, by omega⟩
  | 1, _ => rw [h1]; exact ⟨rfl, by omega⟩
  | 2, _ => rw [h2]; exact ⟨rfl, by omega⟩
/-- Grown together as grown one by one. -/
theorem grow_snoc {l : List Cel} {x : Cel} {n : Nat} {c : Cel} : c ∈ growN n (l ++ [x]) ↔ c ∈ growN n l ∨ c ∈ growN n [x] := by
  rw [grow_iff, grow_iff, grow_iff]
  constructor
  · rintro ⟨p, hp, h⟩
    rcases List.mem_append.1 hp with hp | hp
    · exact .inl ⟨p, hp, h⟩
    · exact .inr ⟨p, hp, h⟩
  · rintro (⟨p, hp, h⟩ | ⟨p, hp, h⟩)
    · exact ⟨p, List.mem_append.2 (.inl hp), h⟩
    · exact ⟨p, List.mem_append.2 (.inr hp), h⟩
/-- The one set, grown, meets the other one just within the distance. -/
theorem meets_iff {a b g : List Cel} {n : Nat} {far : Int} (hg : ∀ c, c ∈ g ↔ c ∈ growN n a) (hf : Least a b far) : decide (0 < (g.filter fun c => decide (c ∈ b)).length) = decide (far ≤ n) := by
  refine decide_eq_decide.2 ?_
  rw [List.length_pos_iff_exists_mem]
  obtain ⟨⟨x, hx, y, hy, e⟩, h2⟩ := hf
  constructor
  · rintro ⟨c, hc⟩
    obtain ⟨hcg, hcb⟩ := List.mem_filter.1 hc
    obtain ⟨p, hp, h⟩ := grow_iff.1 ((hg c).1 hcg)
    exact Int.le_trans (h2 p hp c (of_decide_eq_true hcb)) h
  · intro h
    exact ⟨y, List.mem_filter.2 ⟨(hg y).2 (grow_iff.2 ⟨x, hx, by omega⟩), decide_eq_true hy⟩⟩
theorem least_pos {a b : List Cel} {far : Int} (hf : Least a b far) : 0 ≤ far := by
  obtain ⟨⟨x, _, y, _, e⟩, _⟩ := hf
  rw [← e]
  exact dist_pos x y
end Go.Proofs
