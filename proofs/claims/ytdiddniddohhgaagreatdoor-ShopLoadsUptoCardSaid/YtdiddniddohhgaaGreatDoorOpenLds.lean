import Derived.Test.YtdiddniddohhgaaGreatDoorIteL
import Derived.Test.YtdiddniddohhgaaGreatDoorOpenGuide
section
/- Arguments that are items. -/
namespace Go.Proofs.YtdiddniddohhgaaGreatDoor
open Go.ChangeShapes Go.WideShapes Go.Deep Go.RowKit
set_option maxRecDepth 100000
section
variable {H : Type} {enc : TypeId × Value → H} {w : World}
theorem open_ite1 {n : Nat} {cs : List Value} {y : DataW H × List MemPlace} (h : DataW.trod enc Tryz.prog w 0 (fun _ => true) true n 48 cs = some y) (hl : cs.length = 3) : ∃ t : ItemT, cs = encQ t := by
  obtain ⟨f0, f1, f2, he, k0, k1, k2, o0, o1, o2, hs, hi⟩ : ∃ f0 f1 f2 : Field, Tryz.prog.underlying 48 = some (.struct #[f0, f1, f2]) ∧ f0.type = 9 ∧ f1.type = 9 ∧ f2.type = 3 ∧ f0.offset = 0 ∧ f1.offset = 1 ∧ f2.offset = 2 ∧ Tryz.prog.cellsOf 9 = 1 ∧ Tryz.prog.cellsOf 3 = 1 :=
    ⟨_, _, _, Tryz.underlying48, rfl, rfl, rfl, rfl, rfl, rfl, by kernel_rfl, by kernel_rfl⟩
  match cs, hl with
  | [c0, c1, c2], _ =>
    obtain ⟨xs, m, _, _, _, hlen, hg⟩ := DataW.trod_struct he h
    have g0 := hg 0 f0 rfl
    have g1 := hg 1 f1 rfl
    have g2 := hg 2 f2 rfl
    rw [k0, o0, hs] at g0
    rw [k1, o1, hs] at g1
    rw [k2, o2, hi] at g2
    match xs, hlen with
    | [y0, y1, y2], _ =>
      obtain ⟨s0, hs0, _⟩ := DataW.trod_string (x := y0) Tryz.underlying9 g0
      obtain ⟨s1, hs1, _⟩ := DataW.trod_string (x := y1) Tryz.underlying9 g1
      obtain ⟨x2, rfl⟩ := open_int1 (y := y2) g2
      obtain rfl : c0 = .string s0 := by simpa using hs0
      obtain rfl : c1 = .string s1 := by simpa using hs1
      exact ⟨(s0, s1, x2), rfl⟩
theorem open_items {v : Value} {d : DataW H} {p : List MemPlace} (h : DataW.Trod enc Tryz.prog w 0 (fun _ => true) true 22 v d p) (hv : ∃ (A : Option Addr) (n cap : Nat), v = .slice A n cap) :
    ∃ l : List ItemT, SlF encQ w v l ∧ l.length ≤ Rows.uptoBulk d := by
  obtain ⟨A, n0, c0, rfl⟩ := hv
  obtain ⟨fuel, hf⟩ := h
  have hC : Tryz.prog.cellsOf 48 = 3 := by kernel_rfl
  rcases open_slice Tryz.underlying22 hf with ⟨hcs, hx⟩ | ⟨a, len, cap, m, n', D, Pl, hcs, hb, hl, hm, hmm, hx, hi⟩
  · simp [Value.cells] at hcs
    obtain ⟨rfl, rfl, rfl⟩ := hcs
    exact ⟨[], .inl ⟨rfl, rfl⟩, by simp⟩
  · simp [Value.cells] at hcs
    obtain ⟨rfl, rfl, rfl⟩ := hcs
    simp only [if_true] at hmm
    subst hmm
    have hcel : ∀ i, i < n0 → ∃ t : ItemT, ∀ j u, (encQ t)[j]? = some u → w.cell? (a.add (i * 3 + j)) = some u := fun i hin => by
      obtain ⟨cs', hc, ht'⟩ := hi i (by omega)
      rw [hC] at hc
      obtain ⟨_, hcl, hat⟩ := World.cells?_some hc
      obtain ⟨t, rfl⟩ := open_ite1 ht' hcl
      refine ⟨t, fun j u hu => ?_⟩
      have hj : j < 3 := (List.getElem?_eq_some_iff.1 hu).1
      have h0 := hat j hj
      rw [Go.Deep.add_add] at h0
      rw [h0]
      exact hu
    obtain ⟨l, hlen, hl'⟩ := list_of _ n0 hcel
    refine ⟨l, .inr ⟨a, m, by rw [hlen], fun hne => ?_⟩, ?_⟩
    · obtain ⟨c, hc⟩ : ∃ c, l[0]? = some c := ⟨_, List.getElem?_eq_getElem (List.length_pos_iff.2 hne)⟩
      have hc0 := hl' 0 c hc 0 _ rfl
      obtain ⟨b, o, sp⟩ := a
      obtain rfl : sp = none := by simpa [Addr.add] using World.cell?_spot hc0
      have hadd : ∀ k : Nat, (⟨b, o, none⟩ : Addr).add k = ⟨b, o + k, none⟩ := fun k => by
        unfold Addr.add
        split
        · simp_all
        · rfl
      refine ⟨rfl, ?_, fun j u hu => ?_⟩
      · rcases Nat.lt_or_ge b w.heap.size with h | h
        · exact h
        · simp [World.cell?, Addr.add, Array.getElem?_eq_none h] at hc0
      · have hjl : j < l.length * 3 := by rw [← flatF_len encQ_len]; exact (List.getElem?_eq_some_iff.1 hu).1
        obtain ⟨t, ht⟩ : ∃ t, l[j / 3]? = some t := ⟨_, List.getElem?_eq_getElem (by omega)⟩
        have h1 := flatF_get encQ_len (j := j % 3) ht (by omega)
        rw [show j / 3 * 3 + j % 3 = j by omega, hu] at h1
        have h2 := hl' _ t ht (j % 3) u h1.symm
        rw [show j / 3 * 3 + j % 3 = j by omega, hadd] at h2
        exact h2
    · simp only [Prod.mk.injEq] at hx
      rw [hx.1]
      have hb := bulk_len ((List.range n0).map D)
      simp only [Rows.uptoBulk]
      rw [List.length_map, List.length_range] at hb
      omega
end
end Go.Proofs.YtdiddniddohhgaaGreatDoor
end

section
/- An argument that is a list of ints. -/
namespace Go.Proofs.YtdiddniddohhgaaGreatDoor
open Go.ChangeShapes Go.WideShapes Go.Deep Go.RowKit
set_option maxRecDepth 100000
section
variable {H : Type} {enc : TypeId × Value → H} {w : World}
theorem open_intsJ {n : Nat} {u : Value} {y : DataW H × List MemPlace} (h : DataW.trod enc Tryz.prog w 0 (fun _ => true) true n 23 [u] = some y) : ∃ (l : List Int) (A : Option Addr) (k c : Nat), u = .slice A k c ∧ SlI w (.slice A k c) l ∧ k ≤ c := by
  have hint : ∀ {n : Nat} {u : Value} {y : DataW H × List MemPlace}, DataW.trod enc Tryz.prog w 0 (fun _ => true) true n 3 [u] = some y → ∃ x : Int, u = .int .i64 x := fun {n u y} h => by
    obtain ⟨x, hx, _⟩ := DataW.trod_int Tryz.underlying3 h
    exact ⟨x, by simpa using hx⟩
  rcases open_slice1 Tryz.underlying23 (by kernel_rfl) h with ⟨hcs, _⟩ | ⟨a, len, cap, m, n', V, D, Pl, hcs, hb, hl, hm, hmm, hx, hi⟩
  · obtain rfl : u = .slice none 0 0 := by simpa using hcs
    exact ⟨[], none, 0, 0, rfl, .inl ⟨rfl, rfl⟩, Nat.le_refl _⟩
  · obtain rfl : u = .slice (some a) len cap := by simpa using hcs
    simp only [if_true] at hmm
    subst hmm
    have hcel : ∀ i, i < len → ∃ x : Int, w.cell? (a.add i) = some (.int .i64 x) := fun i hin => by
      obtain ⟨h1, h2⟩ := hi i (by omega)
      obtain ⟨x, hx⟩ := hint h2
      exact ⟨x, by rw [h1, hx]⟩
    obtain ⟨l, hlen, hl'⟩ := list_of _ len hcel
    refine ⟨l, some a, len, m, rfl, .inr ⟨a, m, by rw [hlen], fun hne => ?_⟩, hl⟩
    obtain ⟨c, hc⟩ : ∃ c, l[0]? = some c := ⟨_, List.getElem?_eq_getElem (List.length_pos_iff.2 hne)⟩
    have hc0 := hl' 0 c hc
    obtain ⟨b, o, sp⟩ := a
    obtain rfl : sp = none := by simpa [Addr.add] using World.cell?_spot hc0
    have hadd : ∀ k : Nat, (⟨b, o, none⟩ : Addr).add k = ⟨b, o + k, none⟩ := fun k => by
      unfold Addr.add
      split
      · simp_all
      · rfl
    refine ⟨rfl, ?_, fun i c hi => ?_⟩
    · rcases Nat.lt_or_ge b w.heap.size with h | h
      · exact h
      · simp [World.cell?, Addr.add, Array.getElem?_eq_none h] at hc0
    · have r0 := hl' i c hi
      rw [hadd] at r0
      exact r0
theorem open_ints {v : Value} {d : DataW H} {p : List MemPlace} (h : DataW.Trod enc Tryz.prog w 0 (fun _ => true) true 23 v d p) (hv : ∃ (A : Option Addr) (n cap : Nat), v = .slice A n cap) : ∃ l : List Int, SlI w v l := by
  obtain ⟨A, n0, c0, rfl⟩ := hv
  obtain ⟨fuel, hf⟩ := h
  obtain ⟨l, A', k, c, e, hs, -⟩ := open_intsJ (u := .slice A n0 c0) hf
  exact ⟨l, by rw [e]; exact hs⟩
end
end Go.Proofs.YtdiddniddohhgaaGreatDoor
end
