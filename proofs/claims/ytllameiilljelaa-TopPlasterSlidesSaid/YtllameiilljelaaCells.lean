import Derived.Test.YtllameiilljelaaSorted
import Derived.Maps.RangeRun
namespace Go.Proofs
open Go.Shelf Go.RowKit Go.Lib Go.Sort
set_option maxHeartbeats 8000000
set_option maxRecDepth 1000000
def cellV (c : Cel) : Value := .agg #[.int .i64 c.1, .int .i64 c.2.1, .int .i64 c.2.2]

def sliceLen : Value → Nat
  | .slice _ n _ => n
  | _ => 0
def flatC (l : List Cel) : List Value := (l.map encC).flatten
theorem grown_setBlock {w w2 : World} (hal : w2 = w ∨ w2 = w.drew) (r : Nat) (o : Obj) : w.grownBy (ChangeMaps.setBlock w2 r o) (some r) := by
  rcases hal with rfl | rfl
  · exact ⟨rfl, rfl, rfl, by simp [ChangeMaps.setBlock], fun i _ hi => by
      show (_ : Array Obj)[i]? = _
      exact Array.getElem?_setIfInBounds_ne (fun e : r = i => hi (by rw [e]))⟩
  · exact ⟨rfl, rfl, rfl, by simp [ChangeMaps.setBlock], fun i _ hi => by
      show (_ : Array Obj)[i]? = _
      exact Array.getElem?_setIfInBounds_ne (fun e : r = i => hi (by rw [e]))⟩

theorem nodup_len {α : Type} [DecidableEq α] : ∀ {l m : List α}, l.Nodup → (∀ x ∈ l, x ∈ m) → l.length ≤ m.length
  | [], m, _, _ => Nat.zero_le _
  | x :: l, m, hn, hs => by
    rw [List.nodup_cons] at hn
    have hx : x ∈ m := hs x List.mem_cons_self
    have ih := nodup_len (l := l) (m := m.erase x) hn.2 (fun y hy => (List.mem_erase_of_ne (fun e : y = x => hn.1 (by rw [← e]; exact hy))).2 (hs y (List.mem_cons_of_mem _ hy)))
    rw [List.length_erase_of_mem hx] at ih
    have := List.length_pos_of_mem hx
    simp only [List.length_cons]
    omega
theorem nodup_perm {α : Type} [DecidableEq α] : ∀ {l m : List α}, l.Nodup → (∀ x ∈ l, x ∈ m) → m.length ≤ l.length → l.Perm m
  | [], m, _, _, h => by
    have : m = [] := List.eq_nil_of_length_eq_zero (Nat.le_zero.1 h)
    rw [this]
  | x :: l, m, hn, hs, h => by
    rw [List.nodup_cons] at hn
    have hx : x ∈ m := hs x List.mem_cons_self
    have ih := nodup_perm (l := l) (m := m.erase x) hn.2 (fun y hy => (List.mem_erase_of_ne (fun e : y = x => hn.1 (by rw [← e]; exact hy))).2 (hs y (List.mem_cons_of_mem _ hy)))
      (by rw [List.length_erase_of_mem hx]; simp only [List.length_cons] at h; omega)
    exact (ih.cons x).trans (List.perm_cons_erase hx).symm
theorem sortC_perm {l m : List Cel} (h : l.Perm m) : sortC l = sortC m := by
  have tr : ∀ a b c : Cel, (!ltC b a) = true → (!ltC c b) = true → (!ltC c a) = true := fun a b c h1 h2 => by
    simp only [Bool.not_eq_true'] at *
    exact swoC.ntrans c b a h2 h1
  have tot : ∀ a b : Cel, ((!ltC b a) || (!ltC a b)) = true := fun a b => by
    cases h1 : ltC b a with
    | false => rfl
    | true =>
      cases h2 : ltC a b with
      | false => rfl
      | true =>
        have := swoC.trans a b a h2 h1
        rw [swoC.irrefl] at this
        cases this
  refine List.Perm.eq_of_pairwise (le := fun x y => (!ltC y x) = true) ?_ ?_ ?_ ((List.mergeSort_perm _ _).trans (h.trans (List.mergeSort_perm _ _).symm))
  · intro a b _ _ h1 h2
    simp only [Bool.not_eq_true'] at h1 h2
    exact antiC a b h2 h1
  · exact List.pairwise_mergeSort (le := fun x y => !ltC y x) tr tot l
  · exact List.pairwise_mergeSort (le := fun x y => !ltC y x) tr tot m
theorem flatC_snoc (l : List Cel) (c : Cel) : flatC (l ++ [c]) = flatC l ++ encC c := by simp [flatC]

theorem flatC_get : ∀ {l : List Cel} {i : Nat} {c : Cel}, l[i]? = some c → (flatC l)[i * 3]? = some (.int .i64 c.1) ∧ (flatC l)[i * 3 + 1]? = some (.int .i64 c.2.1) ∧ (flatC l)[i * 3 + 2]? = some (.int .i64 c.2.2)
  | [], i, c, h => by simp at h
  | x :: l, 0, c, h => by
    obtain rfl : x = c := by simpa using h
    exact ⟨rfl, rfl, rfl⟩
  | x :: l, i + 1, c, h => by
    have ih := flatC_get (l := l) (i := i) (c := c) (by simpa using h)
    have e : flatC (x :: l) = encC x ++ flatC l := by simp [flatC]
    rw [e]
    have key : ∀ r, (encC x ++ flatC l)[(i + 1) * 3 + r]? = (flatC l)[i * 3 + r]? := fun r => by
      rw [List.getElem?_append_right (by simp [encC]; omega)]
      congr 1
      simp [encC]
      omega
    exact ⟨(key 0).trans ih.1, (key 1).trans ih.2.1, (key 2).trans ih.2.2⟩
theorem owns_row {w : World} {B0 g n cap : Nat} {T : TypeId} {l : List Cel} (h : w.ownsRow B0 T 3 (.slice (some ⟨g, 0, none⟩) n cap) n (flatC l)) : RowAt w g 0 l := fun i c hc => by
  obtain ⟨h0, h1, h2⟩ := flatC_get hc
  have key := fun j u hj => h.cells (g := g) rfl j u hj
  have e : ∀ j, (⟨g, 0, none⟩ : Addr).add j = ⟨g, j, none⟩ := fun j => by
    unfold Addr.add
    by_cases hj : j = 0
    · subst hj; rfl
    · simp [hj]
  refine ⟨?_, ?_, ?_⟩
  · have := key _ _ h0; rw [e] at this; simpa using this
  · have := key _ _ h1; rw [e] at this; simpa using this
  · have := key _ _ h2; rw [e] at this; simpa using this
theorem inj_of_nodup_map {α β : Type} {f : α → β} : ∀ {l : List α}, (l.map f).Nodup → ∀ a ∈ l, ∀ b ∈ l, f a = f b → a = b
  | [], _, a, ha, _, _, _ => by cases ha
  | x :: l, h, a, ha, b, hb, e => by
    rw [List.map_cons, List.nodup_cons] at h
    rcases List.mem_cons.1 ha with rfl | ha'
    · rcases List.mem_cons.1 hb with rfl | hb'
      · rfl
      · exact absurd (List.mem_map.2 ⟨b, hb', e.symm⟩) h.1
    · rcases List.mem_cons.1 hb with rfl | hb'
      · exact absurd (List.mem_map.2 ⟨a, ha', e⟩) h.1
      · exact inj_of_nodup_map h.2 a ha' b hb' e

end Go.Proofs
