/- GridDeals: the law. -/
import Derived.Test.YtmmedmjjbdopjaaGreatDoorDeD
import Derived.Test.YtmmedmjjbdopjaaGreatDoorAwkAt
namespace Go.Proofs
open Go.RowKit Go.Lib
set_option maxHeartbeats 8000000
set_option maxRecDepth 1000000
/-- What the law's memory says of its argument. -/
def Arg4 (W : World) (B : Nat) (T K N : Int) (v : Value) : Prop := W.cell? ⟨B, 0, none⟩ = some (.int .i64 T) ∧ W.cell? ⟨B, 1, none⟩ = some v ∧ W.cell? ⟨B, 2, none⟩ = some (.int .i64 K) ∧ W.cell? ⟨B, 3, none⟩ = some (.int .i64 N)
theorem Arg4.below {W W' : World} {B : Nat} {T K N : Int} {v : Value} (h : Arg4 W B T K N v) {C : Nat} (hb : Below C W W') (hB : B < C) : Arg4 W' B T K N v :=
  ⟨(hb.cell (p := ⟨B, 0, none⟩) hB).trans h.1, (hb.cell (p := ⟨B, 1, none⟩) hB).trans h.2.1, (hb.cell (p := ⟨B, 2, none⟩) hB).trans h.2.2.1, (hb.cell (p := ⟨B, 3, none⟩) hB).trans h.2.2.2⟩
theorem shr_sum {ws : List Int} {T : Int} {f : Nat → Int} (hS : Shared ws T f) (hT : 0 ≤ T ∧ T ≤ 100000) (hn : ws.length ≤ 12) (k : Nat) (hk : k ≤ ws.length) : -1000000000000000 ≤ T - ((List.range k).map f).sum ∧ T - ((List.range k).map f).sum ≤ 1000000000000000 := by
  have h1 := sum_map_nonneg f (List.range k) fun i hi => (hS.bd i (by have := List.mem_range.1 hi; omega)).1
  have h2 := sum_map_le f T (List.range k) fun i hi => (hS.bd i (by have := List.mem_range.1 hi; omega)).2.1
  rw [List.length_range] at h2
  have h3 : (k : Int) * T ≤ 12 * 100000 := Int.mul_le_mul (by omega) hT.2 hT.1 (by omega)
  omega
theorem few_sum {ws : List Int} (hf : FewW ws) (h : ∀ x ∈ ws, x ≤ 100000) : 0 ≤ ws.sum ∧ ws.sum ≤ 1200000 := by
  have h1 := (sum_bd hf.2).1
  have h2 := sum_map_le (fun x : Int => x) 100000 ws h
  have h3 := hf.1
  simp at h2
  omega
theorem gdeals_all (T K N : Int) (ws : List Int) (v : Value) (w : World) (hl : SlI w v ws) (kA : AwakeAt w) :
    Calls Tryz.prog 3 #[.agg #[.int .i64 T, v, .int .i64 K, .int .i64 N]] w fun e w' => e = .returned (.bool true) ∧ Below w.heap.size w w' := by
  obtain ⟨A, cap, rfl⟩ := hl.form
  obtain ⟨W0, hW⟩ : ∃ W0, W0 = w.alloc (.cells #[.int .i64 T, .slice A ws.length cap, .int .i64 K, .int .i64 N] 24) := ⟨_, rfl⟩
  have hK0 : Below w.heap.size w W0 := by subst hW; exact (Below.refl _ _).alloc (Nat.le_refl _) _
  have hA0 : Arg4 W0 w.heap.size T K N (.slice A ws.length cap) := by subst hW; refine ⟨?_, ?_, ?_, ?_⟩ <;> go_simp
  have hlt : w.heap.size < W0.heap.size := by subst hW; simp
  have hl0 := hl.below hK0
  clear hl
  go_enter Tryz.func3, Tryz.ntmps3
  go_wp2_with fail
  rw [← hW]
  clear hW
  refine (kA W0 hK0).mono ?_
  rintro e W1 ⟨rfl, hB1⟩
  have hK1 := hK0.trans (hB1.mono hK0.size)
  have hA1 := hA0.below hB1 hlt
  have hl1 := hl0.below hB1
  have hlt1 : w.heap.size < W1.heap.size := Nat.lt_of_lt_of_le hlt hB1.size
  clear hA0 hl0 hB1 hlt hK0 W0
  obtain ⟨a0, a1, a2, a3⟩ := id hA1
  have hout := kA W1 hK1
  by_cases h1 : T < 0
  · go_wp2_with fail
    refine (hout).mono ?_
    rintro e Wo ⟨rfl, hBo⟩
    go_wp2
    go_ret
    exact ⟨rfl, hK1.trans (hBo.mono hK1.size)⟩
  by_cases h2 : 100000 < T
  · go_wp2_with fail
    refine (hout).mono ?_
    rintro e Wo ⟨rfl, hBo⟩
    go_wp2
    go_ret
    exact ⟨rfl, hK1.trans (hBo.mono hK1.size)⟩
  by_cases h3 : 12 < ws.length
  · have h3' : (12 : Int) < ws.length := by omega
    clear h3
    go_wp2_with fail
    refine (hout).mono ?_
    rintro e Wo ⟨rfl, hBo⟩
    go_wp2
    go_ret
    exact ⟨rfl, hK1.trans (hBo.mono hK1.size)⟩
  have h3' : ¬ (12 : Int) < ws.length := by omega
  go_wp2_with fail
  refine (refWeights_ok ws _ W1 hl1 (by omega)).mono ?_
  rintro e W2 ⟨r, rfl, hr, hB2⟩
  have hK2 := hK1.trans (hB2.mono hK1.size)
  have hA2 := hA1.below hB2 hlt1
  have hl2 := hl1.below hB2
  have hlt2 : w.heap.size < W2.heap.size := Nat.lt_of_lt_of_le hlt1 hB2.size
  have hout := kA W2 hK2
  clear hA1 hl1 hB2 hlt1 hK1 a0 a1 a2 a3
  obtain ⟨a0, a1, a2, a3⟩ := id hA2
  by_cases hr0 : r = 0
  case neg =>
    have hr1 : (r != 0) = true := by simp [hr0]
    clear hr hr0
    go_wp2_with fail
    refine (hout).mono ?_
    rintro e Wo ⟨rfl, hBo⟩
    go_wp2
    go_ret
    exact ⟨rfl, hK2.trans (hBo.mono hK2.size)⟩
  obtain ⟨hf, hs⟩ := hr hr0
  subst hr0
  clear hr
  by_cases h4 : 40 < N
  · clear hs
    go_wp2_with fail
    refine (hout).mono ?_
    rintro e Wo ⟨rfl, hBo⟩
    go_wp2
    go_ret
    exact ⟨rfl, hK2.trans (hBo.mono hK2.size)⟩
  have Hs := Lib.hid hs
  clear hs
  go_wp2_with fail
  refine (refDraw_ok K N W2).mono ?_
  rintro e W3 ⟨r, rfl, hr, hB3⟩
  have hK3 := hK2.trans (hB3.mono hK2.size)
  have hA3 := hA2.below hB3 hlt2
  have hl3 := hl2.below hB3
  have hlt3 : w.heap.size < W3.heap.size := Nat.lt_of_lt_of_le hlt2 hB3.size
  have hout := kA W3 hK3
  clear hA2 hl2 hB3 hlt2 hK2 a0 a1 a2 a3
  obtain ⟨a0, a1, a2, a3⟩ := id hA3
  by_cases hr0 : r = 0
  case neg =>
    have hr1 : (r != 0) = true := by simp [hr0]
    clear hr hr0
    go_wp2_with fail
    refine (hout).mono ?_
    rintro e Wo ⟨rfl, hBo⟩
    go_wp2
    go_ret
    exact ⟨rfl, hK3.trans (hBo.mono hK3.size)⟩
  obtain ⟨hk, hn⟩ := hr hr0
  subst hr0
  clear hr hout kA
  have Hk := Lib.hid hk
  have Hn := Lib.hid (show 0 ≤ N ∧ N ≤ 40 by omega)
  have HT := Lib.hid (show 0 ≤ T ∧ T ≤ 100000 by omega)
  clear hk hn
  go_wp2
  clear h1 h2 h3 h3' h4 a0 a1 a2 a3
  have hle := hf.1
  go_loopw [3, 56] (fun s i wr => ∃ k : Nat, k ≤ ws.length ∧ i = .int .i64 k ∧ s = .int .i64 (ws.take k).sum ∧ wr = W3 ∧ ∀ x ∈ ws.take k, x ≤ 100000) (fun _ i _ => ws.length - (intOf i).toNat)
  case atStart => exact ⟨0, Nat.zero_le _, rfl, rfl, rfl, by simp⟩
  case round =>
    obtain ⟨k, hk, rfl, rfl, rfl, hx100⟩ := hrel
    rcases Nat.lt_or_eq_of_le hk with hkn | rfl
    · obtain ⟨b, o, x, rfl, -, hb, hx, r0⟩ := hl3.cells hkn
      have hi0 : (0 : Int) ≤ k := by omega
      have hi1 : (k : Int) < ws.length := by omega
      have wk := wrapS (n := (k : Int) + 1) (by omega)
      have hsu := few_take hf (k + 1)
      rw [sum_take hx] at hsu
      have ws' := wrapD (n := (ws.take k).sum + x) (by omega)
      by_cases hx1 : 100000 < x
      · clear hl3 hf hsu ws' hx hx100
        go_wp2
        go_ret
        exact ⟨rfl, hK3⟩
      · have Hx := Lib.hid hx
        have H1 := Lib.hid hx1
        have H100 := Lib.hid hx100
        clear hf hsu hx hx100
        go_wp2
        refine ⟨⟨k + 1, hkn, rfl, by rw [sum_take Hx.out], by first | rfl | trivial, fun y hy => ?_⟩, by simp [intOf]; omega⟩
        rw [List.take_add_one, Hx.out] at hy
        rcases List.mem_append.1 hy with hy | hy
        · exact H100.out y hy
        · simp at hy
          subst hy
          have := H1.out
          omega
    · rw [List.take_length] at hx100 ⊢
      obtain ⟨a0, a1, a2, a3⟩ := id hA3
      go_wp2_with fail
      refine (sharesG_ok ws _ T wr hl3 hf Hs.out HT.out).mono ?_
      rintro e W4 ⟨B, f, rfl, hS, hI, hB, hB4⟩
      have hK4 := hK3.trans (hB4.mono hK3.size)
      have hA4 := hA3.below hB4 hlt3
      have hl4 := hl3.below hB4
      have hlt4 : w.heap.size < W4.heap.size := Nat.lt_of_lt_of_le hlt3 hB4.size
      have hsum := few_sum hf hx100
      clear a0 a1 a2 a3 hA3 hl3 hB4 hlt3 hK3 hk
      obtain ⟨a0, a1, a2, a3⟩ := id hA4
      go_wp2
      clear a0 a1 a2 a3
      go_loopw [8, 89] (fun lf i wr => ∃ k : Nat, k ≤ ws.length ∧ i = .int .i64 k ∧ lf = .int .i64 (T - ((List.range k).map f).sum) ∧ Below W4.heap.size W4 wr) (fun _ i _ => ws.length - (intOf i).toNat)
      case atStart => exact ⟨0, Nat.zero_le _, rfl, by simp, Below.refl _ _⟩
      case round =>
        obtain ⟨k, hk, rfl, rfl, hX⟩ := hrel
        rcases Nat.lt_or_eq_of_le hk with hkn | rfl
        · have hlX := hl4.below hX
          obtain ⟨b, o, x, rfl, -, hb, hx, r0⟩ := hlX.cells hkn
          obtain ⟨a0, a1, a2, a3⟩ := hA4.below hX hlt4
          have hi0 : (0 : Int) ≤ k := by omega
          have hi1 : (k : Int) < ws.length := by omega
          have s0 := (hI.below hX hB) k (f k) (by simp [hkn])
          rw [Nat.zero_add] at s0
          have hx' : ws.getD k 0 = x := by rw [List.getD_eq_getElem?_getD, hx]; rfl
          have hbd := hS.bd k hkn
          rw [hx'] at hbd
          have hT := HT.out
          have hxb := hf.2 x (List.mem_of_getElem? hx)
          have hx1 := hx100 x (List.mem_of_getElem? hx)
          have hp1 : 0 ≤ f k * ws.sum ∧ f k * ws.sum ≤ 100000 * 1200000 := ⟨Int.mul_nonneg hbd.1 hsum.1, Int.mul_le_mul (by omega) hsum.2 hsum.1 (by omega)⟩
          have hp2 : 0 ≤ T * x ∧ T * x ≤ 100000 * 100000 := ⟨Int.mul_nonneg hT.1 hxb.1, Int.mul_le_mul hT.2 hx1 hxb.1 (by omega)⟩
          have n1 : ¬ f k < 0 := by omega
          have n2 : ¬ T < f k := by omega
          have m1 := wrapD (n := f k * ws.sum) (by omega)
          have m2 := wrapD (n := T * x) (by omega)
          have m3 := wrapD (n := T * x - ws.sum) (by omega)
          have m4 := wrapD (n := T * x + ws.sum) (by omega)
          have n3 : ¬ f k * ws.sum ≤ T * x - ws.sum := by omega
          have n4 : ¬ T * x + ws.sum ≤ f k * ws.sum := by omega
          have Hx := Lib.hid hx
          have HX := Lib.hid hX
          have Hh := Lib.hid hx100
          have Hq := Lib.hid hx'
          clear hx hX hbd hT hxb hx1 hp1 hp2 hsum hlX hx' hx100 hf
          go_wp2
          go_quiet (fail)
          rename Nat => q1
          go_wp2
          have hXq : Below W4.heap.size W4 (wr.drewN q1) := ⟨HX.out.os, HX.out.tape, HX.out.output, HX.out.size, HX.out.block⟩
          clear r0 a0 a1 a2 a3 s0 m1 m2 m3 m4 n1 n2 n3 n4
          go_loopw [141] (fun i w1 => ∃ j : Nat, j ≤ ws.length ∧ i = .int .i64 j ∧ Below W4.heap.size W4 w1) (fun i _ => ws.length - (intOf i).toNat)
          case atStart => exact ⟨0, Nat.zero_le _, rfl, hXq⟩
          case round =>
            rename World => w1
            clear hXq
            obtain ⟨j, hj, rfl, hX2⟩ := hrel
            have s0 := (hI.below hX2 hB) k (f k) (by simp [hkn])
            rw [Nat.zero_add] at s0
            rcases Nat.lt_or_eq_of_le hj with hjn | rfl
            · obtain ⟨b', o', y, e1, -, hb', hy, t0⟩ := (hl4.below hX2).cells hjn
              cases e1
              have hj0 : (0 : Int) ≤ j := by omega
              have hj1 : (j : Int) < ws.length := by omega
              have wj := wrapS (n := (j : Int) + 1) (by omega)
              have s1 := (hI.below hX2 hB) j (f j) (by simp [hjn])
              rw [Nat.zero_add] at s1
              have hy' : ws.getD j 0 = y := by rw [List.getD_eq_getElem?_getD, hy]; rfl
              have H2 := Lib.hid hX2
              by_cases hyx : y < x
              · have hmo := hS.mono k j hkn hjn (by rw [Hq.out, hy']; exact hyx)
                have n5 : ¬ f k < f j := by omega
                clear hy hy' hX2 hmo
                go_wp2
                go_quiet (fail)
                go_wp2
                exact ⟨⟨j + 1, hjn, rfl, ⟨H2.out.os, H2.out.tape, H2.out.output, H2.out.size, H2.out.block⟩⟩, by simp [intOf]; omega⟩
              · have Hyx := Lib.hid hyx
                clear hy hy' hX2 hyx
                go_wp2
                have hyx : ¬ y < x := by have := Hyx.out; omega
                go_quiet (fail)
                go_wp2
                exact ⟨⟨j + 1, hjn, rfl, ⟨H2.out.os, H2.out.tape, H2.out.output, H2.out.size, H2.out.block⟩⟩, by simp [intOf]; omega⟩
            · have wk := wrapS (n := (k : Int) + 1) (by omega)
              have hsucc : ((List.range (k + 1)).map f).sum = ((List.range k).map f).sum + f k := by
                rw [List.range_succ, List.map_append, List.sum_append]
                simp
              have wl : IntKind.i64.wrap (T - ((List.range k).map f).sum - f k) = T - ((List.range (k + 1)).map f).sum := by
                rw [hsucc, show T - ((List.range k).map f).sum - f k = T - (((List.range k).map f).sum + f k) by omega, ← hsucc]
                exact wrapD (shr_sum hS HT.out hle (k + 1) hkn)
              have Hsu := Lib.hid hsucc
              clear hsucc
              go_wp2
              exact ⟨⟨k + 1, hkn, rfl, by rw [Hsu.out], hX2⟩, by simp [intOf]; omega⟩
        · have hsT := hS.sum
          rw [show T - ((List.range ws.length).map f).sum = 0 by omega]
          obtain ⟨a0, a1, a2, a3⟩ := hA4.below hX hlt4
          have hA5 := hA4.below hX hlt4
          have hK5 := hK4.trans (hX.mono hK4.size)
          have hlt5 : w.heap.size < wr.heap.size := Nat.lt_of_lt_of_le hlt4 hX.size
          clear hsT hl4 hA4 hX hsum hx100 hS hI
          obtain ⟨n, rfl⟩ : ∃ n : Nat, N = n := ⟨N.toNat, by have := Hn.out; omega⟩
          go_wp2_with fail
          refine (drawG_ok n K wr Hk.out (by have := Hn.out; omega)).mono ?_
          rintro e W5 ⟨g, cp, D, rfl, hD, hsl, hp, hfst, hB5⟩
          have hK6 := hK5.trans (hB5.mono hK5.size)
          have hA6 := hA5.below hB5 hlt5
          have hlt6 : w.heap.size < W5.heap.size := Nat.lt_of_lt_of_le hlt5 hB5.size
          clear a0 a1 a2 a3 hA5 hK5 hlt5 hB5
          obtain ⟨a0, a1, a2, a3⟩ := id hA6
          go_wp2_with fail
          refine (isOrder_ok D _ W5 hsl (by rw [hD]; exact hp) (by have := Hn.out; omega)).mono ?_
          rintro e W6 ⟨rfl, hB6⟩
          have hK7 := hK6.trans (hB6.mono hK6.size)
          have hA7 := hA6.below hB6 hlt6
          have hsl7 := hsl.below hB6
          clear a0 a1 a2 a3 hA6 hK6 hsl hB6 hp
          obtain ⟨a0, a1, a2, a3⟩ := id hA7
          by_cases n0 : n = 0
          · subst n0
            clear hsl7 hfst hf
            go_wp2
            go_quiet (fail)
            go_wp2
            go_ret
            exact ⟨rfl, ⟨hK7.os, hK7.tape, hK7.output, hK7.size, hK7.block⟩⟩
          · have hKb := Hk.out
            have hn0 : (0 : Int) < n := by omega
            have z0 : ((n : Int) == 0) = false := by rw [beq_eq_false_iff_ne]; omega
            have z1 : ¬ (n : Int) = 0 := by omega
            obtain ⟨d, r, rfl⟩ : ∃ d r, D = d :: r := by
              match D, hD with
              | [], hD => exact absurd hD.symm n0
              | d :: r, _ => exact ⟨d, r, rfl⟩
            have hfd := hfst d r rfl
            obtain ⟨b', o', x', e1, -, hb', hx', t0⟩ := hsl7.cells (k := 0) (by simp)
            cases e1
            obtain rfl : d = x' := by simpa using hx'
            rw [Nat.zero_add] at t0
            have wp := wrapD (n := 40014 * K) (by omega)
            have wm : Int.tmod (40014 * K) 2147483563 = drawX K := by
              rw [Int.tmod_eq_emod_of_nonneg (by omega)]
              rfl
            have wn : Int.tmod (drawX K) n = d := by
              rw [Int.tmod_eq_emod_of_nonneg (drawX_bd K).1, hfd]
            clear hfd hfst hsl7 hx' hf hKb hD
            go_wp2
            go_quiet (fail)
            go_wp2
            go_ret
            exact ⟨rfl, ⟨hK7.os, hK7.tape, hK7.output, hK7.size, hK7.block⟩⟩
end Go.Proofs
