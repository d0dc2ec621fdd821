/- Shades, exactly: first least tabs and mixes; no world. -/
import Derived.Test.YtpjmobpmpghpeaaGreatDoorHeldF
import Derived.Test.YtpjmobpmpghpeaaGreatDoorShdAD
namespace Go.Proofs
open Go.RowKit Go.MapKept
set_option maxHeartbeats 4000000
set_option maxRecDepth 1000000
/-- The first least one of the first k colours. -/
def NearK (l : List Cel) (ws t : Cel) (k m : Nat) : Prop := ∃ cm, l[m]? = some cm ∧ (∀ j c, j < k → l[j]? = some c → distW ws cm t ≤ distW ws c t) ∧ (∀ j c, j < m → l[j]? = some c → distW ws c t ≠ distW ws cm t)
theorem NearK.start {l : List Cel} {ws t : Cel} (h : 0 < l.length) : NearK l ws t 0 0 := ⟨_, List.getElem?_eq_getElem h, fun j _ h => absurd h (Nat.not_lt_zero j), fun j _ h => absurd h (Nat.not_lt_zero j)⟩
theorem NearK.less {l : List Cel} {ws t ck cm : Cel} {k m : Nat} (h : NearK l ws t k m) (hk : l[k]? = some ck) (hm : l[m]? = some cm) (hd : distW ws ck t < distW ws cm t) : NearK l ws t (k + 1) k := by
  obtain ⟨cm', h1, h2, h3⟩ := h
  obtain rfl := Option.some.inj (h1.symm.trans hm)
  refine ⟨ck, hk, fun j c hj hc => ?_, fun j c hj hc => ?_⟩
  · rcases Nat.lt_or_eq_of_le (Nat.le_of_lt_succ hj) with h4 | rfl
    · have := h2 j c h4 hc
      omega
    · obtain rfl := Option.some.inj (hk.symm.trans hc)
      exact Int.le_refl _
  · have := h2 j c hj hc
    omega
theorem NearK.more {l : List Cel} {ws t ck cm : Cel} {k m : Nat} (h : NearK l ws t k m) (hk : l[k]? = some ck) (hm : l[m]? = some cm) (hd : ¬ distW ws ck t < distW ws cm t) : NearK l ws t (k + 1) m := by
  obtain ⟨cm', h1, h2, h3⟩ := h
  obtain rfl := Option.some.inj (h1.symm.trans hm)
  refine ⟨_, h1, fun j c hj hc => ?_, h3⟩
  rcases Nat.lt_or_eq_of_le (Nat.le_of_lt_succ hj) with h4 | rfl
  · exact h2 j c h4 hc
  · obtain rfl := Option.some.inj (hk.symm.trans hc)
    omega
theorem NearK.done {l : List Cel} {ws t : Cel} {k m : Nat} (h : NearK l ws t k m) (hk : l.length ≤ k) : Least1 l ws t m := by
  obtain ⟨cm', h1, h2, h3⟩ := h
  refine ⟨_, h1, fun c hc => ?_, h3⟩
  obtain ⟨j, hj⟩ := List.mem_iff_getElem?.1 hc
  exact h2 j c (Nat.lt_of_lt_of_le (List.getElem?_eq_some_iff.1 hj).1 hk) hj
theorem Least1.same {l : List Cel} {ws t : Cel} {i j : Nat} (h : Least1 l ws t i) (h' : Least1 l ws t j) : i = j := by
  obtain ⟨c, h1, h2, h3⟩ := h
  obtain ⟨c', g1, g2, g3⟩ := h'
  have e1 := h2 c' (List.mem_of_getElem? g1)
  have e2 := g2 c (List.mem_of_getElem? h1)
  rcases Nat.lt_trichotomy i j with h4 | h4 | h4
  · exact absurd (by omega) (g3 i c h4 h1)
  · exact h4
  · exact absurd (by omega) (h3 j c' h4 g1)
/-- Mixes in their order. -/
def MixV (n a b : Nat) (g : Int) : Prop := a < b ∧ b < n ∧ 1 ≤ g ∧ g ≤ 7
def Bef (a' b' : Nat) (g' : Int) (a b : Nat) (g : Int) : Prop := a' < a ∨ a' = a ∧ (b' < b ∨ b' = b ∧ g' < g)
def MixInv (D : Nat → Nat → Int → Int) (n i k : Nat) (e : Int) (a b : Nat) (g : Int) : Prop :=
  MixV n a b g ∧ (∀ a' b' g', MixV n a' b' g' → Bef a' b' g' i k e → D a b g ≤ D a' b' g') ∧ ∀ a' b' g', MixV n a' b' g' → Bef a' b' g' a b g → D a' b' g' ≠ D a b g
theorem MixInv.start {D : Nat → Nat → Int → Int} {n : Nat} (h : 2 ≤ n) : MixInv D n 0 0 1 0 1 1 :=
  ⟨⟨by omega, by omega, by omega, by omega⟩, fun a' b' g' h1 h2 => by unfold MixV at h1; unfold Bef at h2; omega, fun a' b' g' h1 h2 => by unfold MixV at h1; unfold Bef at h2; omega⟩
theorem MixInv.next {D : Nat → Nat → Int → Int} {n i k i2 k2 a b : Nat} {e e2 g : Int} (h : MixInv D n i k e a b g) (hb : ∀ a' b' g', MixV n a' b' g' → Bef a' b' g' i2 k2 e2 → Bef a' b' g' i k e) : MixInv D n i2 k2 e2 a b g :=
  ⟨h.1, fun a' b' g' h1 h2 => h.2.1 a' b' g' h1 (hb a' b' g' h1 h2), h.2.2⟩
theorem MixInv.mid {D : Nat → Nat → Int → Int} {n i a b : Nat} {g : Int} (h : MixInv D n i 0 1 a b g) : MixInv D n i (i + 1) 1 a b g := h.next fun a' b' g' h1 h2 => by unfold MixV at h1; unfold Bef at *; omega
theorem MixInv.up {D : Nat → Nat → Int → Int} {n i k a b : Nat} {g : Int} (h : MixInv D n i k 8 a b g) : MixInv D n i (k + 1) 1 a b g := h.next fun a' b' g' h1 h2 => by unfold MixV at h1; unfold Bef at *; omega
theorem MixInv.out {D : Nat → Nat → Int → Int} {n i k a b : Nat} {g : Int} (h : MixInv D n i k 1 a b g) (hk : n ≤ k) : MixInv D n (i + 1) 0 1 a b g := h.next fun a' b' g' h1 h2 => by unfold MixV at h1; unfold Bef at *; omega
theorem MixInv.less {D : Nat → Nat → Int → Int} {n i k a b : Nat} {e g : Int} (h : MixInv D n i k e a b g) (hv : MixV n i k e) (hd : D i k e < D a b g) : MixInv D n i k (e + 1) i k e := by
  refine ⟨hv, fun a' b' g' h1 h2 => ?_, fun a' b' g' h1 h2 => ?_⟩
  · by_cases h3 : Bef a' b' g' i k e
    · have := h.2.1 a' b' g' h1 h3
      omega
    · obtain ⟨rfl, rfl, rfl⟩ : a' = i ∧ b' = k ∧ g' = e := by unfold Bef at h2 h3; omega
      exact Int.le_refl _
  · have := h.2.1 a' b' g' h1 h2
    omega
theorem MixInv.more {D : Nat → Nat → Int → Int} {n i k a b : Nat} {e g : Int} (h : MixInv D n i k e a b g) (hd : ¬ D i k e < D a b g) : MixInv D n i k (e + 1) a b g := by
  refine ⟨h.1, fun a' b' g' h1 h2 => ?_, h.2.2⟩
  by_cases h3 : Bef a' b' g' i k e
  · exact h.2.1 a' b' g' h1 h3
  · obtain ⟨rfl, rfl, rfl⟩ : a' = i ∧ b' = k ∧ g' = e := by unfold Bef at h2 h3; omega
    omega
/-- The first least mix of all. -/
def MixTop (D : Nat → Nat → Int → Int) (n a b : Nat) (g : Int) : Prop := MixV n a b g ∧ (∀ a' b' g', MixV n a' b' g' → D a b g ≤ D a' b' g') ∧ ∀ a' b' g', MixV n a' b' g' → Bef a' b' g' a b g → D a' b' g' ≠ D a b g
theorem MixInv.top {D : Nat → Nat → Int → Int} {n i k a b : Nat} {e g : Int} (h : MixInv D n i k e a b g) (hi : n ≤ i) : MixTop D n a b g :=
  ⟨h.1, fun a' b' g' h1 => h.2.1 a' b' g' h1 (by unfold MixV at h1; unfold Bef; omega), h.2.2⟩
theorem MixTop.same {D : Nat → Nat → Int → Int} {n a b a' b' : Nat} {g g' : Int} (h : MixTop D n a b g) (h' : MixTop D n a' b' g') : a = a' ∧ b = b' ∧ g = g' := by
  have e1 := h.2.1 _ _ _ h'.1
  have e2 := h'.2.1 _ _ _ h.1
  have e3 := h.2.2 a' b' g' h'.1
  have e4 := h'.2.2 a b g h.1
  by_cases h1 : Bef a' b' g' a b g
  · exact absurd (by omega) (e3 h1)
  · by_cases h2 : Bef a b g a' b' g'
    · exact absurd (by omega) (e4 h2)
    · unfold Bef at h1 h2
      omega
def lexB (p q : Cel) : Bool := decide (p.1 < q.1) || (decide (p.1 = q.1) && (decide (p.2.1 < q.2.1) || (decide (p.2.1 = q.2.1) && decide (p.2.2 < q.2.2))))
theorem mixL_lex {n : Nat} (h : 2 ≤ n ∧ n ≤ 6) : (mixL n).Pairwise (fun p q => lexB p q = true) := by
  have : n = 2 ∨ n = 3 ∨ n = 4 ∨ n = 5 ∨ n = 6 := by omega
  rcases this with rfl | rfl | rfl | rfl | rfl <;> decide +kernel
noncomputable def DL (ws : Cel) (l : List TabT) (c : Cel) (a b : Nat) (g : Int) : Int := distW ws (colM l ((a : Int), (b : Int), g)) (mul8 c)
theorem best_top {ws : Cel} {l : List TabT} {c q : Cel} (h : BestM ws l c q) (hl : 2 ≤ l.length ∧ l.length ≤ 6) : ∃ (a b : Nat) (g : Int), q = ((a : Int), (b : Int), g) ∧ MixTop (DL ws l c) l.length a b g := by
  obtain ⟨j, h1, h2⟩ := h
  rw [mix8] at h2
  obtain ⟨a, b, ha, hb, hab, hbl, hg1, hg7⟩ := mixL_ok.1 (List.mem_of_getElem? h1)
  obtain ⟨qa, qb, g⟩ := q
  dsimp only at ha hb hg1 hg7
  subst ha hb
  obtain ⟨c', h3, h4, h5⟩ := h2
  rw [List.getElem?_map, h1] at h3
  obtain rfl : colM l ((a : Int), (b : Int), g) = c' := by simpa using h3
  refine ⟨a, b, g, rfl, ⟨hab, hbl, hg1, hg7⟩, fun a' b' g' hv => ?_, fun a' b' g' hv hbf => ?_⟩
  · exact h4 _ (List.mem_map.2 ⟨((a' : Int), (b' : Int), g'), mixL_ok.2 ⟨a', b', rfl, rfl, hv.1, hv.2.1, hv.2.2.1, hv.2.2.2⟩, rfl⟩)
  · have hm : ((a' : Int), (b' : Int), g') ∈ mixL l.length := mixL_ok.2 ⟨a', b', rfl, rfl, hv.1, hv.2.1, hv.2.2.1, hv.2.2.2⟩
    obtain ⟨j', hj'⟩ := List.mem_iff_getElem?.1 hm
    have hlt : j' < j := by
      rcases Nat.lt_trichotomy j' j with h6 | h6 | h6
      · exact h6
      · subst h6
        have := Option.some.inj (h1.symm.trans hj')
        simp only [Prod.mk.injEq] at this
        unfold Bef at hbf
        omega
      · have h7 := List.pairwise_iff_getElem.1 (mixL_lex hl) j j' (List.getElem?_eq_some_iff.1 h1).1 (List.getElem?_eq_some_iff.1 hj').1 h6
        rw [(List.getElem?_eq_some_iff.1 h1).2, (List.getElem?_eq_some_iff.1 hj').2] at h7
        unfold lexB at h7
        simp only [Bool.or_eq_true, Bool.and_eq_true, decide_eq_true_eq] at h7
        unfold Bef at hbf
        omega
    exact h5 j' _ hlt (by rw [List.getElem?_map, hj']; rfl)
end Go.Proofs
