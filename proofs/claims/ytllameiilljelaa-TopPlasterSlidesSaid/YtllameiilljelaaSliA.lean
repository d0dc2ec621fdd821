/- TopPlasterSlides: the law's walk, where its example holds. -/
import Derived.Test.YtllameiilljelaaSliK
namespace Go.Proofs
open Go.RowKit
set_option maxHeartbeats 8000000
set_option maxRecDepth 1000000
/-- What the law asks of its input before it looks at the cells. -/
def sliGate (a b : List Cel) (F : Int) (d : Cel) : Bool := fewB 12 2000 a && (fewB 12 2000 b && (decide (refDirI d = 0) && (decide (0 ≤ F) && decide (F ≤ 30))))
theorem sli_out (a b : List Cel) (va vb : Value) (F x y z : Int) (w : World) (hr : RingP w) (ha : Sl w va a) (hb : Sl w vb b) (la : a.length ≤ maxLen) (lb : b.length ≤ maxLen) (hg : sliGate a b F (x, y, z) = false) :
    Calls Try.prog 3 #[.agg #[va, vb, .int .i64 F], .agg #[.int .i64 x, .int .i64 y, .int .i64 z]] w fun e w' => e = .returned (.bool true) ∧ Below w.heap.size w w' := by
  obtain ⟨A, ka, rfl⟩ := ha.form
  obtain ⟨B, kb, rfl⟩ := hb.form
  obtain ⟨W0, hW⟩ : ∃ W0, W0 = (w.alloc (.cells #[.slice A a.length ka, .slice B b.length kb, .int .i64 F] 24)).alloc (.cells #[.int .i64 x, .int .i64 y, .int .i64 z] 26) := ⟨_, rfl⟩
  have hB0 : Below w.heap.size w W0 := by subst hW; exact ((Below.refl _ _).alloc (Nat.le_refl _) _).alloc (by simp) _
  have hsz : W0.heap.size = w.heap.size + 1 + 1 := by subst hW; simp
  have c0 : W0.cell? ⟨w.heap.size, 0, none⟩ = some (.slice A a.length ka) := by subst hW; go_simp
  have c1 : W0.cell? ⟨w.heap.size, 1, none⟩ = some (.slice B b.length kb) := by subst hW; go_simp
  have c2 : W0.cell? ⟨w.heap.size, 2, none⟩ = some (.int .i64 F) := by subst hW; go_simp
  have c3 : W0.cell? ⟨w.heap.size + 1, 0, none⟩ = some (.int .i64 x) := by subst hW; go_simp
  have c4 : W0.cell? ⟨w.heap.size + 1, 1, none⟩ = some (.int .i64 y) := by subst hW; go_simp
  have c5 : W0.cell? ⟨w.heap.size + 1, 2, none⟩ = some (.int .i64 z) := by subst hW; go_simp
  have kk : ∀ V, Below W0.heap.size W0 V → (V.cell? ⟨w.heap.size, 0, none⟩ = some (.slice A a.length ka) ∧ V.cell? ⟨w.heap.size, 1, none⟩ = some (.slice B b.length kb) ∧ V.cell? ⟨w.heap.size, 2, none⟩ = some (.int .i64 F)) ∧ V.cell? ⟨w.heap.size + 1, 0, none⟩ = some (.int .i64 x) ∧ V.cell? ⟨w.heap.size + 1, 1, none⟩ = some (.int .i64 y) ∧ V.cell? ⟨w.heap.size + 1, 2, none⟩ = some (.int .i64 z) := fun V h =>
    ⟨⟨(h.cell (p := ⟨w.heap.size, 0, none⟩) (by show w.heap.size < _; omega)).trans c0, (h.cell (p := ⟨w.heap.size, 1, none⟩) (by show w.heap.size < _; omega)).trans c1, (h.cell (p := ⟨w.heap.size, 2, none⟩) (by show w.heap.size < _; omega)).trans c2⟩,
     (h.cell (p := ⟨w.heap.size + 1, 0, none⟩) (by show w.heap.size + 1 < _; omega)).trans c3, (h.cell (p := ⟨w.heap.size + 1, 1, none⟩) (by show w.heap.size + 1 < _; omega)).trans c4, (h.cell (p := ⟨w.heap.size + 1, 2, none⟩) (by show w.heap.size + 1 < _; omega)).trans c5⟩
  have kA := fun V (h : Below W0.heap.size W0 V) => few_ok a (.slice A a.length ka) 12 2000 V (ha.below (hB0.trans (h.mono hB0.size))) la (by omega)
  have kB := fun V (h : Below W0.heap.size W0 V) => few_ok b (.slice B b.length kb) 12 2000 V (hb.below (hB0.trans (h.mono hB0.size))) lb (by omega)
  have kD := fun V => refDirC_ok x y z V
  have kR := fun V (h : Below W0.heap.size W0 V) => hr V (hB0.trans (h.mono hB0.size))
  unfold sliGate at hg
  generalize fewB 12 2000 a = g1 at kA hg
  generalize fewB 12 2000 b = g2 at kB hg
  generalize refDirI (x, y, z) = r at kD hg
  clear c0 c1 c2 c3 c4 c5 ha hb la lb hr hsz
  go_enter Try.func3, Try.ntmps3
  go_wp2_with fail
  rw [← hW]
  clear hW
  have q := kA _ (Below.refl _ _)
  refine q.mono ?_
  rintro e w3 ⟨rfl, hX⟩
  clear kA q
  obtain ⟨⟨d0, d1, d2⟩, d3, d4, d5⟩ := kk _ hX
  by_cases h1 : g1 = false
  · subst h1
    clear hg
    go_wp2_with (go_at_call 6; refine (kR _ hX).mono ?_; rintro e w4 ⟨rfl, hY⟩)
    go_ret
    exact ⟨rfl, (hB0.trans (hX.mono hB0.size)).trans (hY.mono (hB0.trans (hX.mono hB0.size)).size)⟩
  · obtain rfl : g1 = true := by cases g1 <;> simp_all
    by_cases h2 : g2 = false
    · subst h2
      clear hg
      go_wp2_with (first
        | (go_at_call 4; refine (kB _ hX).mono ?_; rintro e w4 ⟨rfl, hY⟩; have hX := hX.trans (hY.mono hX.size); obtain ⟨⟨d0, d1, d2⟩, d3, d4, d5⟩ := kk _ hX)
        | (go_at_call 6; refine (kR _ hX).mono ?_; rintro e w4 ⟨rfl, hY⟩))
      go_ret
      exact ⟨rfl, (hB0.trans (hX.mono hB0.size)).trans (hY.mono (hB0.trans (hX.mono hB0.size)).size)⟩
    · obtain rfl : g2 = true := by cases g2 <;> simp_all
      by_cases h3 : r = 0
      · subst h3
        by_cases h4 : F < 0
        · clear hg
          go_wp2_with (first
            | (go_at_call 4; refine (kB _ hX).mono ?_; rintro e w4 ⟨rfl, hY⟩; have hX := hX.trans (hY.mono hX.size); obtain ⟨⟨d0, d1, d2⟩, d3, d4, d5⟩ := kk _ hX)
            | (go_at_call 5; refine (kD _).mono ?_; rintro e w4 ⟨rfl, hY⟩; have hX := hX.trans (hY.mono hX.size); obtain ⟨⟨d0, d1, d2⟩, d3, d4, d5⟩ := kk _ hX)
            | (go_at_call 6; refine (kR _ hX).mono ?_; rintro e w4 ⟨rfl, hY⟩))
          go_ret
          exact ⟨rfl, (hB0.trans (hX.mono hB0.size)).trans (hY.mono (hB0.trans (hX.mono hB0.size)).size)⟩
        · have h5 : 30 < F := by
            refine Classical.byContradiction fun h5 => ?_
            rw [decide_eq_true (show 0 ≤ F by omega), decide_eq_true (show F ≤ 30 by omega)] at hg
            exact absurd hg (by decide)
          clear hg
          go_wp2_with (first
            | (go_at_call 4; refine (kB _ hX).mono ?_; rintro e w4 ⟨rfl, hY⟩; have hX := hX.trans (hY.mono hX.size); obtain ⟨⟨d0, d1, d2⟩, d3, d4, d5⟩ := kk _ hX)
            | (go_at_call 5; refine (kD _).mono ?_; rintro e w4 ⟨rfl, hY⟩; have hX := hX.trans (hY.mono hX.size); obtain ⟨⟨d0, d1, d2⟩, d3, d4, d5⟩ := kk _ hX)
            | (go_at_call 6; refine (kR _ hX).mono ?_; rintro e w4 ⟨rfl, hY⟩))
          go_ret
          exact ⟨rfl, (hB0.trans (hX.mono hB0.size)).trans (hY.mono (hB0.trans (hX.mono hB0.size)).size)⟩
      · have h30 : (r != 0) = true := by simpa using h3
        clear hg
        go_wp2_with (first
          | (go_at_call 4; refine (kB _ hX).mono ?_; rintro e w4 ⟨rfl, hY⟩; have hX := hX.trans (hY.mono hX.size); obtain ⟨⟨d0, d1, d2⟩, d3, d4, d5⟩ := kk _ hX)
          | (go_at_call 5; refine (kD _).mono ?_; rintro e w4 ⟨rfl, hY⟩; have hX := hX.trans (hY.mono hX.size); obtain ⟨⟨d0, d1, d2⟩, d3, d4, d5⟩ := kk _ hX)
          | (go_at_call 6; refine (kR _ hX).mono ?_; rintro e w4 ⟨rfl, hY⟩))
        go_ret
        exact ⟨rfl, (hB0.trans (hX.mono hB0.size)).trans (hY.mono (hB0.trans (hX.mono hB0.size)).size)⟩
end Go.Proofs
