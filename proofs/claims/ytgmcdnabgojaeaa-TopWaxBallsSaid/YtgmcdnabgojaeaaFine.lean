import Derived.Test.YtgmcdnabgojaeaaGrP
import Derived.Test.YtgmcdnabgojaeaaShrinkG
import Derived.Test.YtgmcdnabgojaeaaGrowG
section
/- Grown and shrunk sets by distance: which cells they hold. -/
namespace Go.Proofs
open Go.RowKit
set_option maxHeartbeats 4000000
theorem dist_self (p : Cel) : distI p p = 0 := by unfold distI; omega
theorem dist_symm (p q : Cel) : distI p q = distI q p := by unfold distI; omega
theorem dist_pos (p q : Cel) : 0 ≤ distI p q := by unfold distI; omega
theorem dist_zero {p q : Cel} (h : distI p q ≤ 0) : p = q := by
  obtain ⟨a, b, c⟩ := p
  obtain ⟨x, y, z⟩ := q
  unfold distI at h
  dsimp only at h
  simp only [Prod.mk.injEq]
  omega
theorem dist_tri (p q r : Cel) : distI p r ≤ distI p q + distI q r := by unfold distI; omega
theorem near_dist {c d : Cel} (h : d ∈ nearL c) : distI c d = 1 := by
  obtain ⟨x, y, z⟩ := c
  unfold nearL at h
  unfold distI
  simp only [List.mem_cons, List.mem_nil_iff, or_false] at h
  rcases h with rfl | rfl | rfl | rfl | rfl | rfl <;> (dsimp only; omega)
theorem near_toward {p c : Cel} (h : 0 < distI p c) : ∃ d, c ∈ nearL d ∧ distI p d = distI p c - 1 := by
  obtain ⟨a, b, e⟩ := p
  obtain ⟨x, y, z⟩ := c
  unfold nearL distI at *
  dsimp only at h
  have key : x < a ∨ a < x ∨ y < b ∨ b < y ∨ z < e ∨ e < z := by omega
  rcases key with k | k | k | k | k | k
  · refine ⟨(x + 1, y, z), ?_, by dsimp only; omega⟩
    simp
  · refine ⟨(x - 1, y, z), ?_, by dsimp only; omega⟩
    simp
  · refine ⟨(x, y + 1, z), ?_, by dsimp only; omega⟩
    simp
  · refine ⟨(x, y - 1, z), ?_, by dsimp only; omega⟩
    simp
  · refine ⟨(x, y, z + 1), ?_, by dsimp only; omega⟩
    simp
  · refine ⟨(x, y, z - 1), ?_, by dsimp only; omega⟩
    simp
theorem grow_iff {l : List Cel} : ∀ {n : Nat} {c : Cel}, c ∈ growN n l ↔ ∃ p ∈ l, distI p c ≤ n := by
  intro n c
  refine ⟨grow_dist n c, ?_⟩
  induction n generalizing c with
  | zero =>
    rintro ⟨p, hp, h⟩
    exact (dist_zero h) ▸ hp
  | succ n ih =>
    rintro ⟨p, hp, h⟩
    refine mem_step.2 ?_
    by_cases h0 : distI p c ≤ n
    · exact .inl (ih ⟨p, hp, h0⟩)
    · obtain ⟨d, hd, e⟩ := near_toward (p := p) (c := c) (by have := dist_pos p c; omega)
      exact .inr ⟨d, ih ⟨p, hp, by omega⟩, hd⟩
theorem grow_add (l : List Cel) (n : Nat) : ∀ m, growN m (growN n l) = growN (n + m) l
  | 0 => rfl
  | m + 1 => by
    show (growN m (growN n l)).flatMap _ = (growN (n + m) l).flatMap _
    rw [grow_add l n m]
theorem ins_iff {L : List Cel} {c : Cel} : insB L c = true ↔ ∀ d ∈ nearL c, d ∈ L := by
  unfold insB
  simp [List.all_eq_true]
theorem shr_iff : ∀ {n : Nat} {l : List Cel} {c : Cel}, c ∈ shrN n l ↔ ∀ d, distI c d ≤ n → d ∈ l
  | 0, l, c => ⟨fun h d hd => (dist_zero hd) ▸ h, fun h => h c (by rw [dist_self]; omega)⟩
  | n + 1, l, c => by
    show c ∈ shrN n (l.filter (insB l)) ↔ _
    rw [shr_iff (n := n)]
    constructor
    · intro h d hd
      by_cases h0 : distI c d ≤ n
      · exact (List.mem_filter.1 (h d h0)).1
      · obtain ⟨e, he, hde⟩ := near_toward (p := c) (c := d) (by have := dist_pos c d; omega)
        exact ins_iff.1 (List.mem_filter.1 (h e (by omega))).2 d he
    · intro h d hd
      refine List.mem_filter.2 ⟨h d (by omega), ins_iff.2 fun e he => h e ?_⟩
      have := dist_tri c d e
      rw [near_dist he] at this
      omega
theorem shr_grow {l X : List Cel} {n : Nat} (hX : ∀ c, c ∈ X ↔ c ∈ growN n l) : ∀ c ∈ l, c ∈ shrN n X := fun c hc =>
  shr_iff.2 fun d hd => (hX d).2 (grow_iff.2 ⟨c, hc, hd⟩)
theorem grow_shr {l : List Cel} {n : Nat} : ∀ c ∈ growN n (shrN n l), c ∈ l := fun c hc => by
  obtain ⟨p, hp, h⟩ := grow_iff.1 hc
  exact shr_iff.1 hp c h
end Go.Proofs
end

section
/- A part of what NearK had: FineG, chk_sub, grow_fine, grow_small4, offs4, offs4_len, offs4_mem, outI_near, . -/
namespace Go.Proofs
open Go.RowKit
set_option maxHeartbeats 8000000
set_option maxRecDepth 1000000
/-- The cells that are at most four steps from the middle. -/
def offs4 : List Cel := ((List.range 729).map fun t => (((t / 81 : Nat) : Int) - 4, ((t / 9 % 9 : Nat) : Int) - 4, ((t % 9 : Nat) : Int) - 4)).filter fun o => decide (max o.1 (-o.1) + max o.2.1 (-o.2.1) + max o.2.2 (-o.2.2) ≤ 4)
theorem offs4_len : offs4.length = 129 := by decide +kernel
theorem offs4_mem {x y z : Int} (h : max x (-x) + max y (-y) + max z (-z) ≤ 4) : (x, y, z) ∈ offs4 := by
  obtain ⟨a, ha⟩ : ∃ a : Nat, x = (a : Int) - 4 := ⟨(x + 4).toNat, by omega⟩
  obtain ⟨b, hb⟩ : ∃ b : Nat, y = (b : Int) - 4 := ⟨(y + 4).toNat, by omega⟩
  obtain ⟨c, hc⟩ : ∃ c : Nat, z = (c : Int) - 4 := ⟨(z + 4).toNat, by omega⟩
  subst ha hb hc
  have ha : a ≤ 8 := by omega
  have hb : b ≤ 8 := by omega
  have hc : c ≤ 8 := by omega
  refine List.mem_filter.2 ⟨List.mem_map.2 ⟨a * 81 + b * 9 + c, List.mem_range.2 (by omega), ?_⟩, decide_eq_true h⟩
  have e1 : (a * 81 + b * 9 + c) / 81 = a := by omega
  have e2 : (a * 81 + b * 9 + c) / 9 % 9 = b := by omega
  have e3 : (a * 81 + b * 9 + c) % 9 = c := by omega
  rw [e1, e2, e3]
theorem grow_small4 {l : List Cel} (hl : l.length ≤ 12) {i : Nat} (hi : i ≤ 4) {S : List Cel} (hnd : S.Nodup) (hS : ∀ c ∈ S, c ∈ growN i l) : S.length ≤ 4000 := by
  have hsub : ∀ c ∈ S, c ∈ l.flatMap fun p => offs4.map fun o => (p.1 + o.1, p.2.1 + o.2.1, p.2.2 + o.2.2) := fun c hc => by
    obtain ⟨p, hp, h⟩ := grow_dist i c (hS c hc)
    refine List.mem_flatMap.2 ⟨p, hp, List.mem_map.2 ⟨(c.1 - p.1, c.2.1 - p.2.1, c.2.2 - p.2.2), offs4_mem ?_, ?_⟩⟩
    · unfold distI at h
      omega
    · obtain ⟨c1, c2, c3⟩ := c
      simp only [Prod.mk.injEq]
      omega
  have h1 := nodup_len hnd hsub
  have h2 : ∀ m : List Cel, (m.flatMap fun p => offs4.map fun o => (p.1 + o.1, p.2.1 + o.2.1, p.2.2 + o.2.2)).length = m.length * 129 := fun m => by
    induction m with
    | nil => rfl
    | cons c m ih => rw [List.flatMap_cons, List.length_append, ih, List.length_map, offs4_len]; simp; omega
  rw [h2] at h1
  omega
/-- A call gives a set without an error. -/
def FineG (W : World) (X : List Cel) (e : Ending) (W' : World) : Prop := ∃ (A : Option Addr) (cap : Nat), e = .returned (.tuple #[.slice A X.length cap, .int .i64 0]) ∧ Sl W' (.slice A X.length cap) X ∧ Below W.heap.size W W'
theorem outI_near {X : List Cel} (h : ∀ c ∈ X, Near c 1000) : outI X = 0 := by
  have : X.any badC = false := by
    rw [List.any_eq_false]
    exact fun c hc => by rw [badC_near.2 (h c hc)]; decide
  unfold outI
  rw [this]
  rfl
theorem grow_fine {l : List Cel} {v : Value} {n : Nat} {w : World} (hl : Sl w v l) (hc : chkI l = 0) (hn : n ≤ 64) (hsm : ∀ i, i ≤ n → ∀ S : List Cel, S.Nodup → (∀ c ∈ S, c ∈ growN i l) → S.length ≤ 4000) (hin : ∀ c ∈ growN n l, Near c 1000) :
    Calls Try.prog 6 #[v, .int .i64 n] w fun e w' => ∃ X, Up X ∧ (∀ c, c ∈ X ↔ c ∈ growN n l) ∧ chkI X = 0 ∧ FineG w X e w' := by
  refine (growG_ok l v n w hl hc hn hsm).mono ?_
  rintro e w' ⟨X, hu, hm, hlX, h, hB⟩
  have ho := outI_near fun c hc => hin c ((hm c).1 hc)
  rcases h with ⟨h, _⟩ | ⟨_, v', rfl, hS⟩
  · exact absurd ho h
  · obtain ⟨A, cap, rfl⟩ := hS.form
    exact ⟨X, hu, hm, chkI_zero.2 ⟨hlX, fun c hc => hin c ((hm c).1 hc), hu⟩, A, cap, rfl, hS, hB⟩
theorem shrink_fine {l : List Cel} {v : Value} {n : Nat} {w : World} (hl : Sl w v l) (hc : chkI l = 0) (hn : n ≤ 64) :
    Calls Try.prog 12 #[v, .int .i64 n] w fun e w' => FineG w (shrN n l) e w' := by
  refine (shrinkG_ok l v n w hl hc hn).mono ?_
  rintro e w' ⟨v', rfl, hs, hB⟩
  obtain ⟨A, cap, rfl⟩ := hs.form
  exact ⟨A, cap, rfl, hs, hB⟩
theorem shr_sub : ∀ (n : Nat) (l : List Cel), (shrN n l).Sublist l
  | 0, _ => List.Sublist.refl _
  | n + 1, _ => (shr_sub n _).trans List.filter_sublist
theorem chk_sub {l m : List Cel} (h : m.Sublist l) (hc : chkI l = 0) : chkI m = 0 := by
  obtain ⟨h1, h2, h3⟩ := chkI_zero.1 hc
  exact chkI_zero.2 ⟨Nat.le_trans h.length_le h1, fun c hm => h2 c (h.subset hm), h3.sublist h⟩
end Go.Proofs
end
