/- A drawn order: pure facts. -/
import Derived.Test.YtmmedmjjbdopjaaGreatDoorRow
namespace Go.Proofs
def drawX (x : Int) : Int := 40014 * x % 2147483563
def rangeI (n : Nat) : List Int := (List.range n).map fun i : Nat => (i : Int)
theorem rangeI_len (n : Nat) : (rangeI n).length = n := by simp [rangeI]
theorem rangeI_get {n i : Nat} (h : i < n) : (rangeI n)[i]? = some (i : Int) := by simp [rangeI, h]
theorem rangeI_mem {n : Nat} {x : Int} : x ∈ rangeI n ↔ 0 ≤ x ∧ x < n := by
  unfold rangeI
  simp only [List.mem_map, List.mem_range]
  constructor
  · rintro ⟨i, hi, rfl⟩
    omega
  · rintro ⟨h1, h2⟩
    exact ⟨x.toNat, by omega, by omega⟩
theorem rangeI_nodup (n : Nat) : (rangeI n).Nodup := by
  unfold rangeI
  rw [List.Nodup, List.pairwise_map]
  exact List.Pairwise.imp (fun h e => h (by omega)) List.nodup_range
/-- What the rounds of a drawn order keep. -/
structure DrawI (n : Nat) (key x : Int) (L D : List Int) : Prop where
  perm : (D ++ L).Perm (rangeI n)
  lo : 0 ≤ x
  hi : x < 2147483563
  start : D = [] → x = key ∧ L = rangeI n
  first : ∀ d r, D = d :: r → d = drawX key % n
theorem DrawI.begin (n : Nat) {key : Int} (h1 : 1 ≤ key) (h2 : key ≤ 2147483562) : DrawI n key key (rangeI n) [] :=
  ⟨List.Perm.refl _, by omega, by omega, fun _ => ⟨rfl, rfl⟩, fun d r h => by cases h⟩
theorem DrawI.len {n : Nat} {key x : Int} {L D : List Int} (h : DrawI n key x L D) : D.length + L.length = n := by
  have := h.perm.length_eq
  rw [List.length_append, rangeI_len] at this
  exact this
theorem drawX_bd (x : Int) : 0 ≤ drawX x ∧ drawX x < 2147483563 := by unfold drawX; omega
theorem DrawI.step {n : Nat} {key x : Int} {L D : List Int} (h : DrawI n key x L D) {k : Nat} (hk : (k : Int) = drawX x % L.length) {d : Int} (hd : L[k]? = some d) : DrawI n key (drawX x) (L.take k ++ L.drop (k + 1)) (D ++ [d]) := by
  have hkl : k < L.length := (List.getElem?_eq_some_iff.1 hd).1
  refine ⟨?_, (drawX_bd x).1, (drawX_bd x).2, fun e => by simp at e, fun e r he => ?_⟩
  · have hL : L = L.take k ++ d :: L.drop (k + 1) := by
      have h1 := List.take_append_drop k L
      rw [List.drop_eq_getElem_cons hkl] at h1
      rw [List.getElem?_eq_getElem hkl] at hd
      injection hd with hd
      rw [hd] at h1
      exact h1.symm
    refine List.Perm.trans ?_ h.perm
    rw [List.append_assoc]
    refine List.Perm.append_left D ?_
    conv => rhs; rw [hL]
    exact (List.perm_middle (a := d) (l₁ := L.take k) (l₂ := L.drop (k + 1))).symm
  · match D, h, he with
    | [], h, he =>
      obtain ⟨h1, h2⟩ := h.start rfl
      simp at he
      obtain ⟨rfl, _⟩ := he
      rw [h2, rangeI_len] at hk
      rw [h2, rangeI_get (by rw [h2, rangeI_len] at hkl; exact hkl)] at hd
      injection hd with hd
      rw [← hd, hk, h1]
    | d' :: D, h, he =>
      simp at he
      obtain ⟨rfl, _⟩ := he
      exact h.first _ _ rfl
theorem DrawI.done {n : Nat} {key x : Int} {D : List Int} (h : DrawI n key x [] D) : D.Perm (rangeI n) := by
  have := h.perm
  rwa [List.append_nil] at this
end Go.Proofs
