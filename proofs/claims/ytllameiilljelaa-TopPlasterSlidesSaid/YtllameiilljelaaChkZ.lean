import Derived.Test.YtllameiilljelaaRefE
section
/- Insertion into an ascending list of cells: plain facts. -/
namespace Go.Proofs
/-- Ascending, each cell once. -/
def Up (l : List Cel) : Prop := l.Pairwise fun a b => ltC a b = true
theorem ltC_irr (a : Cel) : ltC a a = false := swoC.irrefl a
theorem ltC_tr {a b c : Cel} (h : ltC a b = true) (k : ltC b c = true) : ltC a c = true := swoC.trans a b c h k
theorem up_get {l : List Cel} (h : Up l) {i j : Nat} {a b : Cel} (hi : l[i]? = some a) (hj : l[j]? = some b) (hij : i < j) : ltC a b = true := by
  obtain ⟨i1, e1⟩ := List.getElem?_eq_some_iff.1 hi
  obtain ⟨i2, e2⟩ := List.getElem?_eq_some_iff.1 hj
  have := List.pairwise_iff_getElem.1 h i j i1 i2 hij
  rwa [e1, e2] at this
theorem up_insert {out : List Cel} {c : Cel} {j : Nat} (h : Up out) (hlo : ∀ i x, i < j → out[i]? = some x → ltC x c = true) (hhi : ∀ i x, j ≤ i → out[i]? = some x → ltC c x = true) : Up (out.take j ++ c :: out.drop j) := by
  refine List.pairwise_append.2 ⟨h.sublist (List.take_sublist _ _), List.pairwise_cons.2 ⟨fun x hx => ?_, h.sublist (List.drop_sublist _ _)⟩, fun a ha b hb => ?_⟩
  · obtain ⟨i, hi⟩ := List.mem_iff_getElem?.1 hx
    rw [List.getElem?_drop] at hi
    exact hhi _ x (Nat.le_add_right _ _) hi
  · obtain ⟨i, hi⟩ := List.mem_iff_getElem?.1 ha
    rw [List.getElem?_take] at hi
    split at hi
    · rename_i hij
      have h1 := hlo i a hij hi
      rcases List.mem_cons.1 hb with rfl | hb
      · exact h1
      · obtain ⟨k, hk⟩ := List.mem_iff_getElem?.1 hb
        rw [List.getElem?_drop] at hk
        exact ltC_tr h1 (hhi _ b (Nat.le_add_right _ _) hk)
    · cases hi
theorem mem_insert {out : List Cel} {c : Cel} {j : Nat} (x : Cel) : x ∈ out.take j ++ c :: out.drop j ↔ x = c ∨ x ∈ out := by
  have h : x ∈ out ↔ x ∈ out.take j ∨ x ∈ out.drop j := by rw [← List.mem_append, List.take_append_drop]
  rw [h, List.mem_append, List.mem_cons]
  constructor
  · rintro (h | h | h)
    · exact .inr (.inl h)
    · exact .inl h
    · exact .inr (.inr h)
  · rintro (h | h | h)
    · exact .inr (.inl h)
    · exact .inl h
    · exact .inr (.inr h)
theorem len_insert {out : List Cel} {c : Cel} {j : Nat} (hj : j ≤ out.length) : (out.take j ++ c :: out.drop j).length = out.length + 1 := by
  simp
  omega
theorem ins_get {out : List Cel} {x : Cel} {m : Nat} (hm : 0 < m) (hn : m ≤ out.length) : (out.take m ++ x :: out.drop m)[m-1]? = out[m-1]? := by
  rw [List.getElem?_append_left (by rw [List.length_take]; omega), List.getElem?_take, if_pos (by omega)]
theorem ins_set {out : List Cel} {x : Cel} (y : Cel) {m : Nat} (hn : m ≤ out.length) : (out.take m ++ x :: out.drop m).set m y = out.take m ++ y :: out.drop m := by
  have hl : (out.take m).length = m := by rw [List.length_take]; omega
  rw [List.set_append_right m y (by rw [hl]; exact Nat.le_refl _), hl, Nat.sub_self, List.set_cons_zero]
theorem ins_down {out : List Cel} {y : Cel} {m : Nat} (hm : 0 < m) (hy : out[m-1]? = some y) : out.take m ++ y :: out.drop m = out.take (m-1) ++ y :: out.drop (m-1) := by
  obtain ⟨h1, h2⟩ := List.getElem?_eq_some_iff.1 hy
  have e1 : out.take m = out.take (m-1) ++ [y] := by
    have : m = m - 1 + 1 := by omega
    rw [this, List.take_succ_eq_append_getElem h1, h2, Nat.add_sub_cancel]
  have e2 : out.drop (m-1) = y :: out.drop m := by
    rw [List.drop_eq_getElem_cons h1, h2, show m - 1 + 1 = m by omega]
  rw [e1, e2]
  simp
/-- Ascending lists with the same cells are the same. -/
theorem up_ext : ∀ {l m : List Cel}, Up l → Up m → (∀ x, x ∈ l ↔ x ∈ m) → l = m
  | [], [], _, _, _ => rfl
  | [], b :: m, _, _, h => by have := (h b).2 (by simp); cases this
  | a :: l, [], _, _, h => by have := (h a).1 (by simp); cases this
  | a :: l, b :: m, hl, hm, h => by
    obtain ⟨hl1, hl2⟩ := List.pairwise_cons.1 hl
    obtain ⟨hm1, hm2⟩ := List.pairwise_cons.1 hm
    have hab : a = b := by
      rcases List.mem_cons.1 ((h a).1 (by simp)) with e | e
      · exact e
      · rcases List.mem_cons.1 ((h b).2 (by simp)) with e' | e'
        · exact e'.symm
        · have := ltC_tr (hm1 a e) (hl1 b e')
          rw [ltC_irr] at this
          cases this
    subst hab
    rw [up_ext hl2 hm2 fun x => ?_]
    constructor
    · intro hx
      rcases List.mem_cons.1 ((h x).1 (by simp [hx])) with e | e
      · subst e
        have := hl1 x hx
        rw [ltC_irr] at this
        cases this
      · exact e
    · intro hx
      rcases List.mem_cons.1 ((h x).2 (by simp [hx])) with e | e
      · subst e
        have := hm1 x hx
        rw [ltC_irr] at this
        cases this
      · exact e
theorem up_nodup {l : List Cel} (h : Up l) : l.Nodup := List.Pairwise.imp (fun {a b} hl e => by
  subst e
  rw [ltC_irr] at hl
  cases hl) h
theorem up_len_le {l m : List Cel} (h : Up l) (hs : ∀ x ∈ l, x ∈ m) : l.length ≤ m.length := nodup_len (up_nodup h) hs
end Go.Proofs
end

section
/- What it means that a list has no error. -/
namespace Go.Proofs
open Go.RowKit
set_option maxHeartbeats 8000000
set_option maxRecDepth 1000000
theorem wrapL {n : Int} (h : -1000000000000000 ≤ n ∧ n ≤ 1000000000000000) : IntKind.i64.wrap n = n := by simp [IntKind.wrap, IntKind.bits, IntKind.signed]; omega
theorem chkFrom_zero : ∀ (l : List Cel) (p : Option Cel), chkFrom p l = 0 → (∀ c ∈ l, badC c = false) ∧ (∀ q, p = some q → ∀ c ∈ l, ltC q c = true) ∧ Up l
  | [], p, _ => ⟨fun c h => (nomatch h), fun q _ c h => (nomatch h), List.Pairwise.nil⟩
  | c :: l, p, h => by
    unfold chkFrom at h
    split at h
    · cases h
    · split at h
      · cases h
      · rename_i h1 h2
        obtain ⟨i1, i2, i3⟩ := chkFrom_zero l (some c) h
        have hb : badC c = false := by simpa using h1
        have hc := i2 c rfl
        refine ⟨fun x hx => ?_, fun q hq x hx => ?_, List.pairwise_cons.2 ⟨hc, i3⟩⟩
        · rcases List.mem_cons.1 hx with rfl | hx
          · exact hb
          · exact i1 x hx
        · subst hq
          have hqc : ltC q c = true := by
            cases e : ltC q c with
            | true => rfl
            | false => exact absurd (by rw [Option.any_some, e]; rfl) h2
          rcases List.mem_cons.1 hx with rfl | hx
          · exact hqc
          · exact ltC_tr hqc (hc x hx)
theorem chkFrom_of : ∀ (l : List Cel) (p : Option Cel), (∀ c ∈ l, badC c = false) → (∀ q, p = some q → ∀ c ∈ l, ltC q c = true) → Up l → chkFrom p l = 0
  | [], _, _, _, _ => rfl
  | c :: l, p, h1, h2, h3 => by
    obtain ⟨hc, h4⟩ := List.pairwise_cons.1 h3
    have hb := h1 c (List.mem_cons_self ..)
    unfold chkFrom
    rw [hb, if_neg (by simp)]
    have ha : p.any (fun q => !ltC q c) = false := by
      cases p with
      | none => rfl
      | some q => rw [Option.any_some, h2 q rfl c (List.mem_cons_self ..)]; rfl
    rw [ha, if_neg (by simp)]
    exact chkFrom_of l (some c) (fun x hx => h1 x (List.mem_cons_of_mem _ hx)) (fun q hq x hx => by obtain rfl := Option.some.inj hq; exact hc x hx) h4
theorem chk_up {l : List Cel} (h : chkI l = 0) : l.length ≤ 4096 ∧ True ∧ Up l := by
  unfold chkI at h
  split at h
  · cases h
  · exact ⟨by omega, trivial, (chkFrom_zero l none h).2.2⟩
end Go.Proofs
end
