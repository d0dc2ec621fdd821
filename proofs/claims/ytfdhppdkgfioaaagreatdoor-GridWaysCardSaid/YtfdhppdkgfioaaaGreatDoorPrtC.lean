import Derived.Test.YtfdhppdkgfioaaaGreatDoorPeel
import Derived.Test.YtfdhppdkgfioaaaGreatDoorSetOf
import Derived.Test.YtfdhppdkgfioaaaGreatDoorInsP
import Derived.Test.YtfdhppdkgfioaaaGreatDoorPthS
section
/- A part of what ShrinkR had: filter_take1, shrN. -/
namespace Go.Proofs
open Go.RowKit
set_option maxHeartbeats 8000000
set_option maxRecDepth 1000000
/-- A set shrunk by some steps. -/
def shrN : Nat → List Cel → List Cel
  | 0, L => L
  | n + 1, L => shrN n (L.filter (insB L))
theorem filter_take1 {f : Cel → Bool} {l : List Cel} {k : Nat} {c : Cel} (hc : l[k]? = some c) : (l.take (k + 1)).filter f = (l.take k).filter f ++ (if f c then [c] else []) := by
  rw [List.take_add_one, hc, List.filter_append]
  congr 1
  cases h : f c <;> simp [h]
end Go.Proofs
end

section
/- Grown and shrunk sets by distance: which cells they hold. -/
namespace Go.Proofs
open Go.RowKit
set_option maxHeartbeats 4000000
theorem dist_self (p : Cel) : distI p p = 0 := by unfold distI; omega
theorem dist_symm (p q : Cel) : distI p q = distI q p := by unfold distI; omega
theorem dist_pos (p q : Cel) : 0 ≤ distI p q := by unfold distI; omega
theorem dist_zero {p q : Cel} (h : distI p q ≤ 0) : p = q := by
  obtain ⟨a, b, c⟩ := p
  obtain ⟨x, y, z⟩ := q
  unfold distI at h
  dsimp only at h
  simp only [Prod.mk.injEq]
  omega
theorem dist_tri (p q r : Cel) : distI p r ≤ distI p q + distI q r := by unfold distI; omega
theorem near_dist {c d : Cel} (h : d ∈ nearL c) : distI c d = 1 := by
  obtain ⟨x, y, z⟩ := c
  unfold nearL at h
  unfold distI
  simp only [List.mem_cons, List.mem_nil_iff, or_false] at h
  rcases h with rfl | rfl | rfl | rfl | rfl | rfl <;> (dsimp only; omega)
theorem near_toward {p c : Cel} (h : 0 < distI p c) : ∃ d, c ∈ nearL d ∧ distI p d = distI p c - 1 := by
  obtain ⟨a, b, e⟩ := p
  obtain ⟨x, y, z⟩ := c
  unfold nearL distI at *
  dsimp only at h
  have key : x < a ∨ a < x ∨ y < b ∨ b < y ∨ z < e ∨ e < z := by omega
  rcases key with k | k | k | k | k | k
  · refine ⟨(x + 1, y, z), ?_, by dsimp only; omega⟩
    simp
  · refine ⟨(x - 1, y, z), ?_, by dsimp only; omega⟩
    simp
  · refine ⟨(x, y + 1, z), ?_, by dsimp only; omega⟩
    simp
  · refine ⟨(x, y - 1, z), ?_, by dsimp only; omega⟩
    simp
  · refine ⟨(x, y, z + 1), ?_, by dsimp only; omega⟩
    simp
  · refine ⟨(x, y, z - 1), ?_, by dsimp only; omega⟩
    simp
theorem grow_iff {l : List Cel} : ∀ {n : Nat} {c : Cel}, c ∈ growN n l ↔ ∃ p ∈ l, distI p c ≤ n := by
  intro n c
  refine ⟨grow_dist n c, ?_⟩
  induction n generalizing c with
  | zero =>
    rintro ⟨p, hp, h⟩
    exact (dist_zero h) ▸ hp
  | succ n ih =>
    rintro ⟨p, hp, h⟩
    refine mem_step.2 ?_
    by_cases h0 : distI p c ≤ n
    · exact .inl (ih ⟨p, hp, h0⟩)
    · obtain ⟨d, hd, e⟩ := near_toward (p := p) (c := c) (by have := dist_pos p c; omega)
      exact .inr ⟨d, ih ⟨p, hp, by omega⟩, hd⟩
theorem grow_add (l : List Cel) (n : Nat) : ∀ m, growN m (growN n l) = growN (n + m) l
  | 0 => rfl
  | m + 1 => by
    show (growN m (growN n l)).flatMap _ = (growN (n + m) l).flatMap _
    rw [grow_add l n m]
theorem ins_iff {L : List Cel} {c : Cel} : insB L c = true ↔ ∀ d ∈ nearL c, d ∈ L := by
  unfold insB
  simp [List.all_eq_true]
theorem shr_iff : ∀ {n : Nat} {l : List Cel} {c : Cel}, c ∈ shrN n l ↔ ∀ d, distI c d ≤ n → d ∈ l
  | 0, l, c => ⟨fun h d hd => (dist_zero hd) ▸ h, fun h => h c (by rw [dist_self]; omega)⟩
  | n + 1, l, c => by
    show c ∈ shrN n (l.filter (insB l)) ↔ _
    rw [shr_iff (n := n)]
    constructor
    · intro h d hd
      by_cases h0 : distI c d ≤ n
      · exact (List.mem_filter.1 (h d h0)).1
      · obtain ⟨e, he, hde⟩ := near_toward (p := c) (c := d) (by have := dist_pos c d; omega)
        exact ins_iff.1 (List.mem_filter.1 (h e (by omega))).2 d he
    · intro h d hd
      refine List.mem_filter.2 ⟨h d (by omega), ins_iff.2 fun e he => h e ?_⟩
      have := dist_tri c d e
      rw [near_dist he] at this
      omega
theorem shr_grow {l X : List Cel} {n : Nat} (hX : ∀ c, c ∈ X ↔ c ∈ growN n l) : ∀ c ∈ l, c ∈ shrN n X := fun c hc =>
  shr_iff.2 fun d hd => (hX d).2 (grow_iff.2 ⟨c, hc, hd⟩)
theorem grow_shr {l : List Cel} {n : Nat} : ∀ c ∈ growN n (shrN n l), c ∈ l := fun c hc => by
  obtain ⟨p, hp, h⟩ := grow_iff.1 hc
  exact shr_iff.1 hp c h
end Go.Proofs
end

section
/- Parts and paths of cells: neighbours, ascending lists; no world. -/
namespace Go.Proofs
open Go.RowKit
set_option maxHeartbeats 4000000
theorem near_iff {c d : Cel} : d ∈ nearL c ↔ distI c d = 1 := by
  refine ⟨near_dist, fun h => ?_⟩
  obtain ⟨x, y, z⟩ := c
  obtain ⟨a, b, e⟩ := d
  unfold distI at h
  dsimp only at h
  unfold nearL
  simp only [List.mem_cons, List.mem_nil_iff, or_false, Prod.mk.injEq]
  rcases Int.lt_trichotomy a x with h1 | h1 | h1 <;> rcases Int.lt_trichotomy b y with h2 | h2 | h2 <;> rcases Int.lt_trichotomy e z with h3 | h3 | h3
  all_goals first
    | (exfalso; omega)
    | exact .inl ⟨by omega, by omega, by omega⟩
    | exact .inr (.inl ⟨by omega, by omega, by omega⟩)
    | exact .inr (.inr (.inl ⟨by omega, by omega, by omega⟩))
    | exact .inr (.inr (.inr (.inl ⟨by omega, by omega, by omega⟩)))
    | exact .inr (.inr (.inr (.inr (.inl ⟨by omega, by omega, by omega⟩))))
    | exact .inr (.inr (.inr (.inr (.inr ⟨by omega, by omega, by omega⟩))))
theorem near_sym (c d : Cel) (h : d ∈ nearL c) : c ∈ nearL d := near_iff.2 (by rw [dist_symm]; exact near_iff.1 h)
/-- Neighbours in the set. -/
def NearR (c d : Cel) : Prop := d ∈ nearL c
theorem nearR_sym (c d : Cel) (h : NearR c d) : NearR d c := near_sym c d h
theorem partC_up {l : List Cel} (h : Up l) (R : Cel → Cel → Prop) (c : Cel) : Up (partC R l c) := by
  unfold partC Up
  unfold Up at h
  exact h.filter _
/-- The ascending list of the cells that a search finds is the part. -/
theorem part_is {l : List Cel} (h : Up l) {R : Cel → Cel → Prop} (hsym : ∀ a b, R a b → R b a) {k : Nat} (hk : k ≤ l.length) {c : Cel} (hc : c ∈ l) (hin : c ∉ (partK R l k).flatten) {p : List Cel} {i : Nat} {dn : Cel → Prop} (hp : PartI R (fun d => d ∈ l ∧ d ∉ (partK R l k).flatten) c p i dn) (hi : p.length ≤ i) {s : List Cel} (hs : Up s) (hm : ∀ d, d ∈ s ↔ d ∈ p) : s = partC R l c :=
  up_ext hs (partC_up h R c) fun d => by rw [hm, part_found hsym hk hc hin hp hi d]
/-- Steps are no fewer than the distance of the coordinates. -/
theorem walk_dist {S : Cel → Prop} {a b : Cel} {n : Nat} (h : WalkN nearL S a n b) : distI a b ≤ n := by
  have h1 := walk_far (f := fun d => (distI a d).toNat) (fun c d hd => by
    have h2 := dist_tri a c d
    rw [near_iff.1 hd] at h2
    show (distI a d).toNat ≤ (distI a c).toNat + 1
    omega) (by show (distI a a).toNat = 0; rw [dist_self]; rfl) n b h
  have h1 : (distI a b).toNat ≤ n := h1
  have := dist_pos a b
  omega
/-- Within a box. -/
def InB (lo hi c : Cel) : Prop := (lo.1 ≤ c.1 ∧ c.1 ≤ hi.1) ∧ (lo.2.1 ≤ c.2.1 ∧ c.2.1 ≤ hi.2.1) ∧ lo.2.2 ≤ c.2.2 ∧ c.2.2 ≤ hi.2.2
theorem toward_box {lo hi a c : Cel} (ha : InB lo hi a) (hc : InB lo hi c) (h : 0 < distI a c) : ∃ d, InB lo hi d ∧ c ∈ nearL d ∧ distI a d = distI a c - 1 := by
  obtain ⟨x, y, z⟩ := c
  obtain ⟨u, v, w⟩ := a
  unfold InB at ha hc
  dsimp only at ha hc
  have key : ∀ d : Cel, InB lo hi d → distI d (x, y, z) = 1 → distI (u, v, w) d = distI (u, v, w) (x, y, z) - 1 → ∃ d, InB lo hi d ∧ (x, y, z) ∈ nearL d ∧ distI (u, v, w) d = distI (u, v, w) (x, y, z) - 1 := fun d h1 h2 h3 => ⟨d, h1, near_iff.2 h2, h3⟩
  unfold distI at h key ⊢
  dsimp only at h key ⊢
  rcases Int.lt_trichotomy x u with h1 | h1 | h1
  · exact key (x + 1, y, z) (by unfold InB; dsimp only; omega) (by dsimp only; omega) (by dsimp only; omega)
  · rcases Int.lt_trichotomy y v with h2 | h2 | h2
    · exact key (x, y + 1, z) (by unfold InB; dsimp only; omega) (by dsimp only; omega) (by dsimp only; omega)
    · rcases Int.lt_trichotomy z w with h3 | h3 | h3
      · exact key (x, y, z + 1) (by unfold InB; dsimp only; omega) (by dsimp only; omega) (by dsimp only; omega)
      · omega
      · exact key (x, y, z - 1) (by unfold InB; dsimp only; omega) (by dsimp only; omega) (by dsimp only; omega)
    · exact key (x, y - 1, z) (by unfold InB; dsimp only; omega) (by dsimp only; omega) (by dsimp only; omega)
  · exact key (x - 1, y, z) (by unfold InB; dsimp only; omega) (by dsimp only; omega) (by dsimp only; omega)
theorem box_walk {lo hi a : Cel} (ha : InB lo hi a) : ∀ (n : Nat) (c : Cel), InB lo hi c → distI a c = n → WalkN nearL (InB lo hi) a n c
  | 0, c, _, h => (dist_zero (by rw [h]; exact Int.le_refl _)).symm
  | n + 1, c, hc, h => by
    obtain ⟨d, h1, h2, h3⟩ := toward_box ha hc (by omega)
    exact ⟨hc, d, box_walk ha n d h1 (by omega), h2⟩
/-- In a whole box the steps are the distance of the coordinates. -/
theorem box_dist {lo hi a b : Cel} (ha : InB lo hi a) (hb : InB lo hi b) : IsDist nearL (InB lo hi) a b (distI a b).toNat :=
  ⟨box_walk ha _ b hb (by have := dist_pos a b; omega), fun k hk => by
    have := walk_dist hk
    omega⟩
end Go.Proofs
end
