/- Arguments that are jobs, a list of ints, or a list of lists of ints. -/
import Derived.Test.YtclmaobblnfplaaJbN
import Derived.Test.YtclmaobblnfplaaOpenGuide
namespace Go.Proofs.Ytclmaobblnfplaa
open Go.ChangeShapes Go.WideShapes Go.Deep Go.RowKit
set_option maxRecDepth 100000
def CapL (L : List JobV) : Prop := ∀ x ∈ L, x.2.1.2.1 ≤ x.2.1.2.2 ∧ x.2.2.2.1 ≤ x.2.2.2.2
section
variable {H : Type} {enc : TypeId × Value → H} {w : World}
theorem open_intsJ {n : Nat} {u : Value} {y : DataW H × List MemPlace} (h : DataW.trod enc Try.prog w 0 (fun _ => true) true n 23 [u] = some y) : ∃ (l : List Int) (A : Option Addr) (k c : Nat), u = .slice A k c ∧ SlI w (.slice A k c) l ∧ k ≤ c := by
  have hint : ∀ {n : Nat} {u : Value} {y : DataW H × List MemPlace}, DataW.trod enc Try.prog w 0 (fun _ => true) true n 3 [u] = some y → ∃ x : Int, u = .int .i64 x := fun {n u y} h => by
    obtain ⟨x, hx, _⟩ := DataW.trod_int Try.underlying3 h
    exact ⟨x, by simpa using hx⟩
  rcases open_slice1 Try.underlying23 (by kernel_rfl) h with ⟨hcs, _⟩ | ⟨a, len, cap, m, n', V, D, Pl, hcs, hb, hl, hm, hmm, hx, hi⟩
  · obtain rfl : u = .slice none 0 0 := by simpa using hcs
    exact ⟨[], none, 0, 0, rfl, .inl ⟨rfl, rfl⟩, Nat.le_refl _⟩
  · obtain rfl : u = .slice (some a) len cap := by simpa using hcs
    simp only [if_true] at hmm
    subst hmm
    have hcel : ∀ i, i < len → ∃ x : Int, w.cell? (a.add i) = some (.int .i64 x) := fun i hin => by
      obtain ⟨h1, h2⟩ := hi i (by omega)
      obtain ⟨x, hx⟩ := hint h2
      exact ⟨x, by rw [h1, hx]⟩
    obtain ⟨l, hlen, hl'⟩ := list_of _ len hcel
    refine ⟨l, some a, len, m, rfl, .inr ⟨a, m, by rw [hlen], fun hne => ?_⟩, hl⟩
    obtain ⟨c, hc⟩ : ∃ c, l[0]? = some c := ⟨_, List.getElem?_eq_getElem (List.length_pos_iff.2 hne)⟩
    have hc0 := hl' 0 c hc
    obtain ⟨b, o, sp⟩ := a
    obtain rfl : sp = none := by simpa [Addr.add] using World.cell?_spot hc0
    have hadd : ∀ k : Nat, (⟨b, o, none⟩ : Addr).add k = ⟨b, o + k, none⟩ := fun k => by
      unfold Addr.add
      split
      · simp_all
      · rfl
    refine ⟨rfl, ?_, fun i c hi => ?_⟩
    · rcases Nat.lt_or_ge b w.heap.size with h | h
      · exact h
      · simp [World.cell?, Addr.add, Array.getElem?_eq_none h] at hc0
    · have r0 := hl' i c hi
      rw [hadd] at r0
      exact r0
theorem open_ints {v : Value} {d : DataW H} {p : List MemPlace} (h : DataW.Trod enc Try.prog w 0 (fun _ => true) true 23 v d p) (hv : ∃ (A : Option Addr) (n cap : Nat), v = .slice A n cap) : ∃ l : List Int, SlI w v l := by
  obtain ⟨A, n0, c0, rfl⟩ := hv
  obtain ⟨fuel, hf⟩ := h
  obtain ⟨l, A', k, c, e, hs, -⟩ := open_intsJ (u := .slice A n0 c0) hf
  exact ⟨l, by rw [e]; exact hs⟩
theorem open_lists {v : Value} {d : DataW H} {p : List MemPlace} (h : DataW.Trod enc Try.prog w 0 (fun _ => true) true 48 v d p) (hv : ∃ (A : Option Addr) (n cap : Nat), v = .slice A n cap) : ∃ l : List (List Int), SlLL w v l := by
  obtain ⟨A, n0, c0, rfl⟩ := hv
  obtain ⟨fuel, hf⟩ := h
  rcases open_slice1 (cs := [.slice A n0 c0]) Try.underlying48 (by kernel_rfl) hf with ⟨hcs, _⟩ | ⟨a, len, cap, m, n', V, D, Pl, hcs, hb, hl, hm, hmm, hx, hi⟩
  · have hcs : (Value.slice A n0 c0) = .slice none 0 0 := by simpa using hcs
    rw [hcs]
    exact ⟨[], .inl ⟨rfl, rfl⟩⟩
  · have hcs : (Value.slice A n0 c0) = .slice (some a) len cap := by simpa using hcs
    rw [hcs]
    have hcel : ∀ i, i < len → ∃ x : List Int, ∃ u, w.cell? (a.add i) = some u ∧ SlI w u x := fun i hin => by
      simp only [if_true] at hmm
      subst hmm
      obtain ⟨h1, h2⟩ := hi i (by omega)
      obtain ⟨l, A', k, c, e, hs, -⟩ := open_intsJ h2
      exact ⟨l, _, h1, by rw [e]; exact hs⟩
    obtain ⟨l, hlen, hl'⟩ := list_of _ len hcel
    refine ⟨l, .inr ⟨a, cap, by rw [hlen], fun hne => ?_⟩⟩
    obtain ⟨c, hc⟩ : ∃ c, l[0]? = some c := ⟨_, List.getElem?_eq_getElem (List.length_pos_iff.2 hne)⟩
    obtain ⟨u0, hc0, -⟩ := hl' 0 c hc
    obtain ⟨b, o, sp⟩ := a
    obtain rfl : sp = none := by simpa [Addr.add] using World.cell?_spot hc0
    have hadd : ∀ k : Nat, (⟨b, o, none⟩ : Addr).add k = ⟨b, o + k, none⟩ := fun k => by
      unfold Addr.add
      split
      · simp_all
      · rfl
    refine ⟨rfl, ?_, fun i c hi => ?_⟩
    · rcases Nat.lt_or_ge b w.heap.size with h | h
      · exact h
      · simp [World.cell?, Addr.add, Array.getElem?_eq_none h] at hc0
    · have r0 := hl' i c hi
      rw [hadd] at r0
      exact r0
theorem open_job1 {n : Nat} {cs : List Value} {y : DataW H × List MemPlace} (h : DataW.trod enc Try.prog w 0 (fun _ => true) true n 31 cs = some y) (hl : cs.length = 3) : ∃ t : JobV × JobT, cs = encJ t.1 ∧ t.1.1 = t.2.1 ∧ SlI w (vS t.1.2.1) t.2.2.1 ∧ SlI w (vS t.1.2.2) t.2.2.2 ∧ t.1.2.1.2.1 ≤ t.1.2.1.2.2 ∧ t.1.2.2.2.1 ≤ t.1.2.2.2.2 := by
  obtain ⟨f0, f1, f2, he, k0, k1, k2, o0, o1, o2, hs, hi⟩ : ∃ f0 f1 f2 : Field, Try.prog.underlying 31 = some (.struct #[f0, f1, f2]) ∧ f0.type = 9 ∧ f1.type = 23 ∧ f2.type = 23 ∧ f0.offset = 0 ∧ f1.offset = 1 ∧ f2.offset = 2 ∧ Try.prog.cellsOf 9 = 1 ∧ Try.prog.cellsOf 23 = 1 :=
    ⟨_, _, _, Try.underlying31, rfl, rfl, rfl, rfl, rfl, rfl, by kernel_rfl, by kernel_rfl⟩
  match cs, hl with
  | [c0, c1, c2], _ =>
    obtain ⟨xs, m, _, _, _, hlen, hg⟩ := DataW.trod_struct he h
    have g0 := hg 0 f0 rfl
    have g1 := hg 1 f1 rfl
    have g2 := hg 2 f2 rfl
    rw [k0, o0, hs] at g0
    rw [k1, o1, hi] at g1
    rw [k2, o2, hi] at g2
    match xs, hlen with
    | [y0, y1, y2], _ =>
      obtain ⟨s0, hs0, _⟩ := DataW.trod_string (x := y0) Try.underlying9 g0
      obtain ⟨l1, A1, n1, c1', e1, h1, p1⟩ := open_intsJ (y := y1) g1
      obtain ⟨l2, A2, n2, c2', e2, h2, p2⟩ := open_intsJ (y := y2) g2
      obtain rfl : c0 = .string s0 := by simpa using hs0
      subst e1 e2
      exact ⟨((s0, (A1, n1, c1'), (A2, n2, c2')), (s0, l1, l2)), rfl, rfl, h1, h2, p1, p2⟩
theorem open_jobs {v : Value} {d : DataW H} {p : List MemPlace} (h : DataW.Trod enc Try.prog w 0 (fun _ => true) true 22 v d p) (hv : ∃ (A : Option Addr) (n cap : Nat), v = .slice A n cap) :
    ∃ (L : List JobV) (J : List JobT), SlF encJ w v L ∧ InJ w L J ∧ L.length ≤ Rows.uptoBulk d ∧ CapL L := by
  obtain ⟨A, n0, c0, rfl⟩ := hv
  obtain ⟨fuel, hf⟩ := h
  have hC : Try.prog.cellsOf 31 = 3 := by kernel_rfl
  rcases open_slice Try.underlying22 hf with ⟨hcs, hx⟩ | ⟨a, len, cap, m, n', D, Pl, hcs, hb, hl, hm, hmm, hx, hi⟩
  · simp [Value.cells] at hcs
    obtain ⟨rfl, rfl, rfl⟩ := hcs
    exact ⟨[], [], .inl ⟨rfl, rfl⟩, ⟨rfl, fun k x j h => by simp at h⟩, by simp, fun x hx => by simp at hx⟩
  · simp [Value.cells] at hcs
    obtain ⟨rfl, rfl, rfl⟩ := hcs
    simp only [if_true] at hmm
    subst hmm
    have hcel : ∀ i, i < n0 → ∃ t : JobV × JobT, (∀ j u, (encJ t.1)[j]? = some u → w.cell? (a.add (i * 3 + j)) = some u) ∧ t.1.1 = t.2.1 ∧ SlI w (vS t.1.2.1) t.2.2.1 ∧ SlI w (vS t.1.2.2) t.2.2.2 ∧ t.1.2.1.2.1 ≤ t.1.2.1.2.2 ∧ t.1.2.2.2.1 ≤ t.1.2.2.2.2 := fun i hin => by
      obtain ⟨cs', hc, ht'⟩ := hi i (by omega)
      rw [hC] at hc
      obtain ⟨_, hcl, hat⟩ := World.cells?_some hc
      obtain ⟨t, rfl, ht1, ht2, ht3, ht4⟩ := open_job1 ht' hcl
      refine ⟨t, fun j u hu => ?_, ht1, ht2, ht3, ht4⟩
      have hj : j < 3 := (List.getElem?_eq_some_iff.1 hu).1
      have h0 := hat j hj
      rw [Go.Deep.add_add] at h0
      rw [h0]
      exact hu
    obtain ⟨l, hlen, hl'⟩ := list_of _ n0 hcel
    refine ⟨l.map (·.1), l.map (·.2), .inr ⟨a, m, by rw [List.length_map, hlen], fun hne => ?_⟩, ⟨by simp, fun k x j hx hj => ?_⟩, ?_, fun x hx => ?_⟩
    · have hne : l ≠ [] := fun e => hne (by rw [e]; rfl)
      obtain ⟨c, hc⟩ : ∃ c, l[0]? = some c := ⟨_, List.getElem?_eq_getElem (List.length_pos_iff.2 hne)⟩
      have hc0 := (hl' 0 c hc).1 0 _ rfl
      obtain ⟨b, o, sp⟩ := a
      obtain rfl : sp = none := by simpa [Addr.add] using World.cell?_spot hc0
      have hadd : ∀ k : Nat, (⟨b, o, none⟩ : Addr).add k = ⟨b, o + k, none⟩ := fun k => by
        unfold Addr.add
        split
        · simp_all
        · rfl
      refine ⟨rfl, ?_, fun j u hu => ?_⟩
      · rcases Nat.lt_or_ge b w.heap.size with h | h
        · exact h
        · simp [World.cell?, Addr.add, Array.getElem?_eq_none h] at hc0
      · have hjl : j < l.length * 3 := by
          have := (List.getElem?_eq_some_iff.1 hu).1
          rw [flatF_len encJ_len, List.length_map] at this
          exact this
        obtain ⟨t, ht⟩ : ∃ t, l[j / 3]? = some t := ⟨_, List.getElem?_eq_getElem (by omega)⟩
        have hm1 : (l.map (·.1))[j / 3]? = some t.1 := by rw [List.getElem?_map, ht]; rfl
        have h1 := flatF_get encJ_len (j := j % 3) hm1 (by omega)
        rw [show j / 3 * 3 + j % 3 = j by omega, hu] at h1
        have h2 := (hl' _ t ht).1 (j % 3) u h1.symm
        rw [show j / 3 * 3 + j % 3 = j by omega, hadd] at h2
        exact h2
    · rw [List.getElem?_map] at hx hj
      cases ht : l[k]? with
      | none => rw [ht] at hx; cases hx
      | some t =>
        rw [ht] at hx hj
        obtain rfl : t.1 = x := Option.some.inj hx
        obtain rfl : t.2 = j := Option.some.inj hj
        obtain ⟨-, g1, g2, g3, -⟩ := hl' k t ht
        exact ⟨g1, g2, g3⟩
    · simp only [Prod.mk.injEq] at hx
      rw [hx.1]
      have hb := bulk_len ((List.range n0).map D)
      simp only [Rows.uptoBulk]
      rw [List.length_map, List.length_range] at hb
      rw [List.length_map]
      omega
    · obtain ⟨t, ht, rfl⟩ := List.mem_map.1 hx
      obtain ⟨k, hk⟩ := List.mem_iff_getElem?.1 ht
      exact (hl' k t hk).2.2.2.2
end
end Go.Proofs.Ytclmaobblnfplaa
