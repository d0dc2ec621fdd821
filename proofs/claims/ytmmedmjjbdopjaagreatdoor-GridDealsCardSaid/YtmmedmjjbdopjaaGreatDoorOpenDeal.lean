/- An argument that is a total, weights, a key and a number. -/
import Derived.Test.YtmmedmjjbdopjaaGreatDoorOpenPair
import Derived.Test.YtmmedmjjbdopjaaGreatDoorIntL
namespace Go.Proofs.YtmmedmjjbdopjaaGreatDoor
open Go.ChangeShapes Go.WideShapes Go.Deep Go.RowKit
set_option maxRecDepth 100000
/-- A slice of ints of the caller's. -/
def StI (W : World) (v : Value) (l : List Int) : Prop := SlI W v l ∧ ∃ (A : Option Addr) (cap : Nat), v = .slice A l.length cap ∧ l.length ≤ cap ∧ cap ≤ 9223372036854775807
theorem open_ints1 {H : Type} {enc : TypeId × Value → H} {w : World} {n : Nat} {u : Value} {y : DataW H × List MemPlace} (h : DataW.trod enc Tryz.prog w 0 (fun _ => true) true n 22 [u] = some y) : ∃ l : List Int, StI w u l := by
  have hint : ∀ {n : Nat} {u : Value} {y : DataW H × List MemPlace}, DataW.trod enc Tryz.prog w 0 (fun _ => true) true n 3 [u] = some y → ∃ x : Int, u = .int .i64 x := fun {n u y} h => by
    obtain ⟨x, hx, _⟩ := DataW.trod_int Tryz.underlying3 h
    exact ⟨x, by simpa using hx⟩
  rcases open_slice1 Tryz.underlying22 (by kernel_rfl) h with ⟨hcs, _⟩ | ⟨a, len, cap, m, n', V, D, Pl, hcs, hb, hl, hm, hmm, hx, hi⟩
  · obtain rfl : u = .slice none 0 0 := by simpa using hcs
    exact ⟨[], .inl ⟨rfl, rfl⟩, none, 0, rfl, by simp, by omega⟩
  · obtain rfl : u = .slice (some a) len cap := by simpa using hcs
    simp only [if_true] at hmm
    subst hmm
    have hcel : ∀ i, i < len → ∃ x : Int, w.cell? (a.add i) = some (.int .i64 x) := fun i hin => by
      obtain ⟨h1, h2⟩ := hi i (by omega)
      obtain ⟨x, hx⟩ := hint h2
      exact ⟨x, by rw [h1, hx]⟩
    obtain ⟨l, hlen, hl'⟩ := list_of _ len hcel
    refine ⟨l, .inr ⟨a, m, by rw [hlen], fun hne => ?_⟩, some a, m, by rw [hlen], by omega, by unfold maxLen at hm; omega⟩
    obtain ⟨c, hc⟩ : ∃ c, l[0]? = some c := ⟨_, List.getElem?_eq_getElem (List.length_pos_iff.2 hne)⟩
    have hc0 := hl' 0 c hc
    obtain ⟨b, o, sp⟩ := a
    obtain rfl : sp = none := by simpa [Addr.add] using World.cell?_spot hc0
    have hadd : ∀ k : Nat, (⟨b, o, none⟩ : Addr).add k = ⟨b, o + k, none⟩ := fun k => by
      unfold Addr.add
      split
      · simp_all
      · rfl
    refine ⟨rfl, ?_, fun i c hi => ?_⟩
    · rcases Nat.lt_or_ge b w.heap.size with h | h
      · exact h
      · simp [World.cell?, Addr.add, Array.getElem?_eq_none h] at hc0
    · have r0 := hl' i c hi
      rw [hadd] at r0
      exact r0
theorem open_deal {H : Type} {enc : TypeId × Value → H} {w : World} {v : Value} {d : DataW H} {p : List MemPlace} (h : DataW.Trod enc Tryz.prog w 0 (fun _ => true) true 24 v d p) (hv : ∃ cs, v = .agg cs ∧ cs.size = Tryz.prog.cellsOf 24) :
    ∃ (vw : Value) (T K N : Int) (ws : List Int), v = .agg #[.int .i64 T, vw, .int .i64 K, .int .i64 N] ∧ StI w vw ws := by
  obtain ⟨cs, rfl, hsz⟩ := hv
  obtain ⟨fuel, hf⟩ := h
  obtain ⟨f0, f1, f2, f3, he, k0, k1, k2, k3, o0, o1, o2, o3, hc, hs, h4⟩ : ∃ f0 f1 f2 f3 : Field, Tryz.prog.underlying 24 = some (.struct #[f0, f1, f2, f3]) ∧ f0.type = 3 ∧ f1.type = 22 ∧ f2.type = 3 ∧ f3.type = 3 ∧ f0.offset = 0 ∧ f1.offset = 1 ∧ f2.offset = 2 ∧ f3.offset = 3 ∧ Tryz.prog.cellsOf 3 = 1 ∧ Tryz.prog.cellsOf 22 = 1 ∧ Tryz.prog.cellsOf 24 = 4 :=
    ⟨_, _, _, _, Tryz.underlying24, rfl, rfl, rfl, rfl, rfl, rfl, rfl, rfl, by kernel_rfl, by kernel_rfl, by kernel_rfl⟩
  obtain ⟨l⟩ := cs
  match l, hsz.trans h4 with
  | [c0, c1, c2, c3], _ =>
    obtain ⟨xs, m, _, _, _, hlen, hg⟩ := DataW.trod_struct he hf
    have g0 := hg 0 f0 rfl
    have g1 := hg 1 f1 rfl
    have g2 := hg 2 f2 rfl
    have g3 := hg 3 f3 rfl
    rw [k0, o0, hc] at g0
    rw [k1, o1, hs] at g1
    rw [k2, o2, hc] at g2
    rw [k3, o3, hc] at g3
    match xs, hlen with
    | [y0, y1, y2, y3], _ =>
      obtain ⟨x0, rfl⟩ := open_int1 (y := y0) g0
      obtain ⟨ws, hw⟩ := open_ints1 (y := y1) g1
      obtain ⟨x2, rfl⟩ := open_int1 (y := y2) g2
      obtain ⟨x3, rfl⟩ := open_int1 (y := y3) g3
      exact ⟨c1, x0, x2, x3, ws, rfl, hw⟩
end Go.Proofs.YtmmedmjjbdopjaaGreatDoor
