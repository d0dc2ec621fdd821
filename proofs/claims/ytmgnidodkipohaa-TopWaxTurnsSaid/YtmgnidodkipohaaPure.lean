import Derived.Test.YtmgnidodkipohaaTurn
import Derived.Test.YtmgnidodkipohaaTwiceOk
import Derived.Test.YtmgnidodkipohaaMirrorB
import Derived.Test.YtmgnidodkipohaaShift
namespace Go.Proofs
open Go.RowKit Go.AM
set_option maxRecDepth 1000000
theorem asc_sortC {l : List Cel} (h : l.Nodup) : Asc (sortC l) := by
  intro i a b ha hb
  have hne := sortC_nodup h i a b ha hb
  have tr : ∀ a b c : Cel, (!ltC b a) = true → (!ltC c b) = true → (!ltC c a) = true := fun a b c h1 h2 => by
    simp only [Bool.not_eq_true'] at *
    exact swoC.ntrans c b a h2 h1
  have tot : ∀ a b : Cel, ((!ltC b a) || (!ltC a b)) = true := fun a b => by
    cases h1 : ltC b a with
    | false => rfl
    | true =>
      cases h2 : ltC a b with
      | false => rfl
      | true =>
        have := swoC.trans a b a h2 h1
        rw [swoC.irrefl] at this
        cases this
  have hp := List.pairwise_mergeSort (le := fun x y => !ltC y x) tr tot l
  obtain ⟨i1, e1⟩ := List.getElem?_eq_some_iff.1 ha
  obtain ⟨i2, e2⟩ := List.getElem?_eq_some_iff.1 hb
  have h1 := List.pairwise_iff_getElem.1 hp i (i+1) i1 i2 (Nat.lt_succ_self i)
  have e1' : (l.mergeSort fun x y => !ltC y x)[i] = a := e1
  have e2' : (l.mergeSort fun x y => !ltC y x)[i+1] = b := e2
  rw [e1', e2'] at h1
  have hba : ltC b a = false := by simpa using h1
  cases hab : ltC a b with
  | true => exact (cmp3_lt a b).2 hab
  | false => exact absurd (antiC a b hab hba) hne
theorem vec_of {c : Cel} {n : Int} (h : (-n ≤ c.1 ∧ c.1 ≤ n) ∧ (-n ≤ c.2.1 ∧ c.2.1 ≤ n) ∧ (-n ≤ c.2.2 ∧ c.2.2 ≤ n)) : vecI c n = 0 := by
  unfold vecI withinI
  rw [if_neg (by omega), if_neg (by omega), if_neg (by omega)]
  rfl
theorem mem_sortC {l : List Cel} {c : Cel} : c ∈ sortC l ↔ c ∈ l := (List.mergeSort_perm _ _).mem_iff
def axesL : List Cel := [(0, 0, 0), (0, 0, 3), (0, 2, 0), (1, 0, 0)]
def turnB (k : Nat) (o : Cel) : Cel → Cel := turnC (turnA k).1 (turnA k).2.1 (turnA k).2.2 o
def zeroC : Cel := (0, 0, 0)
noncomputable def hereI (k : Nat) : List Cel := isortC (axesL.map (turnB k zeroC))
noncomputable def mirI (j : Nat) (l : List Cel) : List Cel := isortC (l.map (mirrorC j))
noncomputable def eqC (a b : Cel) : Bool := eqI a.1 b.1 && eqI a.2.1 b.2.1 && eqI a.2.2 b.2.2
noncomputable def eqLC (l m : List Cel) : Bool := match l, m with
  | [], [] => true
  | a :: l, b :: m => eqC a b && eqLC l m
  | _, _ => false
theorem here_asc : ((List.range 24).all fun k => ascC (hereI k)) = true := by kernel_rfl
theorem here_same : ((List.range 24).all fun k => Nat.beq (((List.range 24).filter fun i => eqLC (hereI i) (hereI k)).length) 1) = true := by kernel_rfl
theorem mir_asc : ((List.range 3).all fun j => ascC (mirI j axesL)) = true := by kernel_rfl
theorem mir_not : ((List.range 3).all fun j => (List.range 24).all fun i => !eqLC (hereI i) (mirI j axesL)) = true := by kernel_rfl
theorem twice_undone : ((List.range 24).all fun k => Nat.beq (((List.range 24).filter fun i => Nat.beq (twN k i) 0).length) 1) = true := by kernel_rfl
theorem twice_lt : ((List.range 24).all fun k => (List.range 24).all fun i => Nat.blt (twN k i) 24) = true := by kernel_rfl
theorem twice_assoc : ((List.range 24).all fun k => (List.range 24).all fun m => (List.range 24).all fun n => Nat.beq (twN (twN k m) n) (twN k (twN m n))) = true := by kernel_rfl
def halfN (j : Nat) : Nat := [1, 4, 5].getD j 0
theorem two_half : ((List.range 24).all fun k => (List.range 3).all fun j => ascC (mirI ((j+1)%3) (hereI k)) && ascC (mirI ((j+2)%3) (mirI ((j+1)%3) (hereI k))) && ascC (isortC ((hereI k).map (turnB (halfN j) zeroC))) && eqLC (mirI ((j+2)%3) (mirI ((j+1)%3) (hereI k))) (isortC ((hereI k).map (turnB (halfN j) zeroC)))) = true := by kernel_rfl
end Go.Proofs
