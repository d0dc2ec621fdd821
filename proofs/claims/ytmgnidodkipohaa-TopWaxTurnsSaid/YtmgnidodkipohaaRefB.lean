import Derived.Test.YtmgnidodkipohaaRefA
namespace Go.Proofs
open Go.RowKit
set_option maxHeartbeats 4000000
set_option maxRecDepth 1000000
theorem wrapS {n : Int} (h : -9000000 ≤ n ∧ n ≤ 9000000) : IntKind.i64.wrap n = n := by simp [IntKind.wrap, IntKind.bits, IntKind.signed]; omega
theorem vector_ok (x1 y1 z1 x2 y2 z2 : Int) (w : World) (h1 : -9000000 ≤ x2 - x1 ∧ x2 - x1 ≤ 9000000) (h2 : -9000000 ≤ y2 - y1 ∧ y2 - y1 ≤ 9000000) (h3 : -9000000 ≤ z2 - z1 ∧ z2 - z1 ≤ 9000000) :
    Calls Try.prog 25 #[.agg #[.int .i64 x1, .int .i64 y1, .int .i64 z1], .agg #[.int .i64 x2, .int .i64 y2, .int .i64 z2]] w fun e w' => e = .returned (.agg #[.int .i64 (x2 - x1), .int .i64 (y2 - y1), .int .i64 (z2 - z1)]) ∧ Below w.heap.size w w' := by
  have w1 := wrapS h1
  have w2 := wrapS h2
  have w3 := wrapS h3
  clear h1 h2 h3
  go_enter Try.func25, Try.ntmps25
  go_wp2
  (try simp only [Exit.inBlock, Exit.then])
  refine bodyPost_ret (results_cell_row rfl _ _ _ 32 #[.int .i64 (x2 - x1), .int .i64 (y2 - y1), .int .i64 (z2 - z1)] (0, 0) _ rfl ?hg Try.underlying32 rfl (by kernel_rfl)) rfl ?_
  case hg =>
    have e : ((w.alloc (.cells #[.int .i64 x1, .int .i64 y1, .int .i64 z1] 32)).alloc (.cells #[.int .i64 x2, .int .i64 y2, .int .i64 z2] 32)).heap.size = w.heap.size + 2 := by simp
    have := heap_alloc_new ((w.alloc (.cells #[.int .i64 x1, .int .i64 y1, .int .i64 z1] 32)).alloc (.cells #[.int .i64 x2, .int .i64 y2, .int .i64 z2] 32)) (.cells #[.int .i64 (x2 - x1), .int .i64 (y2 - y1), .int .i64 (z2 - z1)] 32)
    rw [e] at this
    exact this
  refine ⟨rfl, ?_⟩
  exact (((Below.refl _ _).alloc (Nat.le_refl _) _).alloc (by simp) _).alloc (by simp; omega) _
theorem compareCells_ok (x1 y1 z1 x2 y2 z2 : Int) (w : World) :
    Calls Try.prog 78 #[.agg #[.int .i64 x1, .int .i64 y1, .int .i64 z1], .agg #[.int .i64 x2, .int .i64 y2, .int .i64 z2]] w fun e w' => e = .returned (.int .i64 (cmp3 x1 y1 z1 x2 y2 z2)) ∧ Below w.heap.size w w' := by
  have hc := fun W => compare_ok x1 y1 z1 x2 y2 z2 W
  generalize cmp3 x1 y1 z1 x2 y2 z2 = r at hc ⊢
  go_enter Try.func78, Try.ntmps78
  go_wp2_with (go_at_call 80; refine (hc _).mono ?_; rintro e w' ⟨rfl, q, os, rfl⟩)
  go_ret
  refine ⟨rfl, ?_⟩
  rw [Sort.alloc_eq_grow, Sort.alloc_eq_grow, Sort.grow_grow, show ∀ os', (Sort.grow w os').drewN q = Sort.grow (w.drewN q) os' from fun _ => rfl, Sort.grow_grow]
  exact below_grow _ _ _
theorem checkEach_ok (l : List Cel) (blk off cap : Nat) (w : World) (hl : RowAt w blk off l) (hb : blk < w.heap.size) (hn : l.length ≤ 4096) (hfit : ∀ c ∈ l, vecI c 1000 = 0) :
    Calls Try.prog 66 #[.slice (some ⟨blk, off, none⟩) l.length cap] w fun e w' => e = .returned (.int .i64 0) ∧ Below w.heap.size w w' := by
  go_enter Try.func66, Try.ntmps66
  go_wp2
  go_loopw [8] (fun i wr => ∃ k : Nat, k ≤ l.length ∧ i = .int .i64 k ∧ Below w.heap.size w wr) (fun i _ => l.length - (intOf i).toNat)
  case atStart => exact ⟨0, Nat.zero_le _, rfl, Below.refl _ _⟩
  case round =>
    obtain ⟨k, hk, rfl, hBel⟩ := hrel
    rcases Nat.lt_or_eq_of_le hk with hkn | rfl
    · obtain ⟨x, y, z, hc⟩ : ∃ x y z, l[k]? = some (x, y, z) := ⟨_, _, _, List.getElem?_eq_getElem hkn⟩
      have hv := fun W => checkCell_ok x y z W
      rw [hfit _ (List.mem_of_getElem? hc)] at hv
      obtain ⟨r0, r1, r2⟩ := hl k _ hc
      rw [← hBel.cell (p := ⟨blk, off + k * 3, none⟩) hb] at r0
      rw [← hBel.cell (p := ⟨blk, off + k * 3 + 1, none⟩) hb] at r1
      rw [← hBel.cell (p := ⟨blk, off + k * 3 + 2, none⟩) hb] at r2
      clear hl hfit
      go_wp2_with (go_at_call 48; refine (hv _).mono ?_; rintro e w2 ⟨rfl, hB2⟩)
      refine ⟨⟨k + 1, hkn, rfl, ?_⟩, ?_⟩
      · exact (hBel.alloc hBel.size _).trans (hB2.mono (by have := hBel.size; simp; omega))
      · simp [intOf]; omega
    · clear hl hfit
      go_wp2
      go_ret
      exact ⟨rfl, hBel⟩
end Go.Proofs
