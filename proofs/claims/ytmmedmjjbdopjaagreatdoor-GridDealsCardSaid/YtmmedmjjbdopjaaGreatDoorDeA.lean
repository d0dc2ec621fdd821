import Derived.Test.YtmmedmjjbdopjaaGreatDoorIntL
import Derived.Test.YtmmedmjjbdopjaaGreatDoorCheckV
import Derived.Test.YtmmedmjjbdopjaaGreatDoorDealP
import Derived.Test.YtmmedmjjbdopjaaGreatDoorDrawP
/- GridDeals: sums and checks of weights, checks of a draw, orders. -/
namespace Go.Proofs
open Go.RowKit
set_option maxHeartbeats 8000000
set_option maxRecDepth 1000000
theorem wrapD {n : Int} (h : -1000000000000000 ≤ n ∧ n ≤ 1000000000000000) : IntKind.i64.wrap n = n := by simp [IntKind.wrap, IntKind.bits, IntKind.signed]; omega
/-- Weights that are few and not too great. -/
def FewW (ws : List Int) : Prop := ws.length ≤ 12 ∧ ∀ x ∈ ws, 0 ≤ x ∧ x ≤ 999999999
theorem sum_take {ws : List Int} {k : Nat} {x : Int} (h : ws[k]? = some x) : (ws.take (k + 1)).sum = (ws.take k).sum + x := by
  rw [List.take_add_one, h]
  simp
theorem sum_bd {ws : List Int} (h : ∀ x ∈ ws, 0 ≤ x ∧ x ≤ 999999999) : 0 ≤ ws.sum ∧ ws.sum ≤ ws.length * 999999999 := by
  have h1 := sum_map_nonneg (fun x : Int => x) ws fun x hx => (h x hx).1
  have h2 := sum_map_le (fun x : Int => x) 999999999 ws fun x hx => (h x hx).2
  simp at h1 h2
  exact ⟨h1, h2⟩
theorem few_take {ws : List Int} (h : FewW ws) (k : Nat) : 0 ≤ (ws.take k).sum ∧ (ws.take k).sum ≤ 11999999988 := by
  have := sum_bd (ws := ws.take k) fun x hx => h.2 x (List.mem_of_mem_take hx)
  have hl : ((ws.take k).length : Int) ≤ 12 := by have := h.1; rw [List.length_take]; omega
  omega
theorem sumG_ok (ws : List Int) (v : Value) (w : World) (hl : SlI w v ws) (hf : FewW ws) :
    Calls Tryz.prog 35 #[v] w fun e w' => e = .returned (.int .i64 ws.sum) ∧ w' = w := by
  obtain ⟨A, cap, rfl⟩ := hl.form
  go_enter Tryz.func35, Tryz.ntmps35
  go_wp2
  go_loopw [3, 8] (fun s i wr => ∃ k : Nat, k ≤ ws.length ∧ i = .int .i64 k ∧ s = .int .i64 (ws.take k).sum ∧ wr = w) (fun _ i _ => ws.length - (intOf i).toNat)
  case atStart => exact ⟨0, Nat.zero_le _, rfl, rfl, rfl⟩
  case round =>
    obtain ⟨k, hk, rfl, rfl, rfl⟩ := hrel
    rcases Nat.lt_or_eq_of_le hk with hkn | rfl
    · obtain ⟨b, o, x, rfl, -, hb, hx, r0⟩ := hl.cells hkn
      have hi0 : (0 : Int) ≤ k := by omega
      have hi1 : (k : Int) < ws.length := by omega
      have hle := hf.1
      have wk := wrapS (n := (k : Int) + 1) (by omega)
      have hs := few_take hf (k + 1)
      rw [sum_take hx] at hs
      have ws' := wrapD (n := (ws.take k).sum + x) (by omega)
      clear hl hf
      go_wp2
      exact ⟨⟨k + 1, hkn, rfl, by rw [sum_take hx], by first | rfl | trivial⟩, by simp [intOf]; omega⟩
    · rw [List.take_length]
      clear hl hf
      go_wp2
      go_ret
      first | exact ⟨rfl, rfl⟩ | exact ⟨rfl, trivial⟩
/-- The reference's check: what it says of few weights. -/
theorem refWeights_ok (ws : List Int) (v : Value) (w : World) (hl : SlI w v ws) (hn : ws.length ≤ 12) :
    Calls Tryz.prog 5 #[v] w fun e w' => ∃ r : Int, e = .returned (.int .i64 r) ∧ (r = 0 → FewW ws ∧ 0 < ws.sum) ∧ Below w.heap.size w w' := by
  obtain ⟨A, cap, rfl⟩ := hl.form
  by_cases h0 : ws.length = 0
  · have hz : (((ws.length : Nat) : Int) == 0) = true := by rw [h0]; rfl
    clear hl hn
    go_enter Tryz.func5, Tryz.ntmps5
    go_wp2
    go_ret
    exact ⟨12, rfl, fun h => by omega, Below.refl _ _⟩
  · have hz : (((ws.length : Nat) : Int) == 0) = false := by rw [beq_eq_false_iff_ne]; omega
    have hz2 : ¬ (256 : Int) < ws.length := by omega
    go_enter Tryz.func5, Tryz.ntmps5
    go_wp2
    go_loopw [3, 4] (fun s i wr => ∃ k : Nat, k ≤ ws.length ∧ i = .int .i64 k ∧ s = .int .i64 (ws.take k).sum ∧ wr = w ∧ FewW (ws.take k)) (fun _ i _ => ws.length - (intOf i).toNat)
    case atStart => exact ⟨0, Nat.zero_le _, rfl, rfl, rfl, by simp [FewW]⟩
    case round =>
      obtain ⟨k, hk, rfl, rfl, rfl, hf⟩ := hrel
      clear hz2 hz
      rcases Nat.lt_or_eq_of_le hk with hkn | rfl
      · obtain ⟨b, o, x, rfl, -, hb, hx, r0⟩ := hl.cells hkn
        have hi0 : (0 : Int) ≤ k := by omega
        have hi1 : (k : Int) < ws.length := by omega
        have wk := wrapS (n := (k : Int) + 1) (by omega)
        by_cases hx0 : x < 0
        · clear hl hf
          go_wp2
          go_ret
          exact ⟨3, rfl, fun h => by omega, Below.refl _ _⟩
        · by_cases hx1 : 999999999 < x
          · clear hl hf
            go_wp2
            go_ret
            exact ⟨3, rfl, fun h => by omega, Below.refl _ _⟩
          · have hf' : FewW (ws.take (k + 1)) := by
              refine ⟨by rw [List.length_take]; omega, fun y hy => ?_⟩
              rw [List.take_add_one, hx] at hy
              rcases List.mem_append.1 hy with hy | hy
              · exact hf.2 y hy
              · simp at hy
                subst hy
                omega
            have hs := few_take hf' (k + 1)
            rw [List.take_take, Nat.min_self, sum_take hx] at hs
            have ws' := wrapD (n := (ws.take k).sum + x) (by omega)
            clear hl hf
            go_wp2
            exact ⟨⟨k + 1, hkn, rfl, by rw [sum_take hx], by first | rfl | trivial, hf'⟩, by simp [intOf]; omega⟩
      · rw [List.take_length] at hf ⊢
        have hs := (sum_bd hf.2).1
        clear hl
        by_cases hs0 : ws.sum = 0
        · rw [hs0]
          clear hs
          go_wp2
          go_ret
          exact ⟨6, rfl, fun h => by omega, Below.refl _ _⟩
        · have hs1 : (ws.sum == 0) = false := by rw [beq_eq_false_iff_ne]; exact hs0
          have H := Lib.hid (show 0 < ws.sum by omega)
          clear hs hs0
          go_wp2
          go_ret
          first | exact ⟨0, rfl, fun _ => ⟨hf, H.out⟩, Below.refl _ _⟩ | exact ⟨0, rfl, fun _ => ⟨hf, H.out⟩, trivial⟩
theorem checkWeightsG_ok (ws : List Int) (v : Value) (w : World) (hl : SlI w v ws) (hf : FewW ws) (hs : 0 < ws.sum) :
    Calls Tryz.prog 34 #[v] w fun e w' => e = .returned (.int .i64 0) ∧ w' = w := by
  have hsum := sumG_ok ws v w hl hf
  obtain ⟨A, cap, rfl⟩ := hl.form
  have hn0 : ws.length ≠ 0 := fun h => by
    have : ws = [] := List.eq_nil_of_length_eq_zero h
    rw [this] at hs
    simp at hs
  have hle := hf.1
  have hz : (((ws.length : Nat) : Int) == 0) = false := by rw [beq_eq_false_iff_ne]; omega
  have hz2 : ¬ (256 : Int) < ws.length := by omega
  have hs1 : (ws.sum == 0) = false := by rw [beq_eq_false_iff_ne]; omega
  clear hs hn0
  go_enter Tryz.func34, Tryz.ntmps34
  go_wp2
  go_loopw [14] (fun i wr => ∃ k : Nat, k ≤ ws.length ∧ i = .int .i64 k ∧ wr = w) (fun i _ => ws.length - (intOf i).toNat)
  case atStart => exact ⟨0, Nat.zero_le _, rfl, rfl⟩
  case round =>
    obtain ⟨k, hk, rfl, rfl⟩ := hrel
    clear hz2 hz
    rcases Nat.lt_or_eq_of_le hk with hkn | rfl
    · obtain ⟨b, o, x, rfl, -, hb, hx, r0⟩ := hl.cells hkn
      have hi0 : (0 : Int) ≤ k := by omega
      have hi1 : (k : Int) < ws.length := by omega
      have wk := wrapS (n := (k : Int) + 1) (by omega)
      have hxb := hf.2 x (List.mem_of_getElem? hx)
      have hwi := fun W => within_ok x 0 999999999 W
      rw [show withinI x 0 999999999 = 0 by unfold withinI; rw [if_neg (by omega)]] at hwi
      clear hl hf hsum hs1 hxb
      go_wp2_with (go_at_call 33; refine (hwi _).mono ?_; rintro e w4 ⟨rfl, rfl⟩)
      exact ⟨⟨k + 1, hkn, rfl, by first | rfl | trivial⟩, by simp [intOf]; omega⟩
    · clear hl hf
      go_wp2_with (go_at_call 35; refine hsum.mono ?_; rintro e w4 ⟨rfl, rfl⟩)
      go_ret
      first | exact ⟨rfl, rfl⟩ | exact ⟨rfl, trivial⟩
theorem refDraw_ok (k n : Int) (w : World) : Calls Tryz.prog 6 #[.int .i64 k, .int .i64 n] w fun e w' => ∃ r : Int, e = .returned (.int .i64 r) ∧ (r = 0 → (1 ≤ k ∧ k ≤ 2147483562) ∧ 0 ≤ n ∧ n ≤ 256) ∧ Below w.heap.size w w' := by
  by_cases h1 : k < 1
  · go_enter Tryz.func6, Tryz.ntmps6
    go_wp2
    go_ret
    exact ⟨3, rfl, fun h => by omega, Below.refl _ _⟩
  · by_cases h2 : 2147483562 < k
    · go_enter Tryz.func6, Tryz.ntmps6
      go_wp2
      go_ret
      exact ⟨3, rfl, fun h => by omega, Below.refl _ _⟩
    · by_cases h3 : n < 0
      · go_enter Tryz.func6, Tryz.ntmps6
        go_wp2
        go_ret
        exact ⟨3, rfl, fun h => by omega, Below.refl _ _⟩
      · by_cases h4 : 256 < n
        · go_enter Tryz.func6, Tryz.ntmps6
          go_wp2
          go_ret
          exact ⟨3, rfl, fun h => by omega, Below.refl _ _⟩
        · go_enter Tryz.func6, Tryz.ntmps6
          go_wp2
          go_ret
          exact ⟨⟨0, rfl⟩, Below.refl _ _⟩
/-- The order's check, of a list that has each number once. -/
theorem isOrder_ok (l : List Int) (v : Value) (w : World) (hl : SlI w v l) (hp : l.Perm (rangeI l.length)) (hn : l.length ≤ 40) :
    Calls Tryz.prog 9 #[v] w fun e w' => e = .returned (.bool true) ∧ Below w.heap.size w w' := by
  have hb : ∀ x ∈ l, 0 ≤ x ∧ x < l.length := fun x hx => rangeI_mem.1 (hp.mem_iff.1 hx)
  have hnd : l.Nodup := hp.nodup_iff.2 (rangeI_nodup _)
  obtain ⟨A, cap, rfl⟩ := hl.form
  clear hp
  go_enter Tryz.func9, Tryz.ntmps9
  go_wp2
  go_loopw [3] (fun i wr => ∃ k : Nat, k ≤ l.length ∧ i = .int .i64 k ∧ Below w.heap.size w wr) (fun i _ => l.length - (intOf i).toNat)
  case atStart => exact ⟨0, Nat.zero_le _, rfl, Below.refl _ _⟩
  case round =>
    obtain ⟨k, hk, rfl, hB⟩ := hrel
    rcases Nat.lt_or_eq_of_le hk with hkn | rfl
    · have hlw := hl.below hB
      obtain ⟨b, o, x, rfl, -, hbw, hx, r0⟩ := hlw.cells hkn
      have hi0 : (0 : Int) ≤ k := by omega
      have hi1 : (k : Int) < l.length := by omega
      have wk := wrapS (n := (k : Int) + 1) (by omega)
      obtain ⟨hx0, hx1⟩ := hb x (List.mem_of_getElem? hx)
      have nx0 : ¬ x < 0 := by omega
      have nx1 : ¬ (l.length : Int) ≤ x := by omega
      have Hx := Lib.hid hx
      clear hx0 hx1 hx
      go_wp2
      go_loopw [4] (fun i wr => ∃ j : Nat, j ≤ k ∧ i = .int .i64 j ∧ Below w.heap.size w wr) (fun i _ => k - (intOf i).toNat)
      case atStart => exact ⟨0, Nat.zero_le _, rfl, hB⟩
      case round =>
        clear r0 hlw nx0 nx1
        obtain ⟨j, hj, rfl, hB2⟩ := hrel
        rcases Nat.lt_or_eq_of_le hj with hjn | rfl
        · have hlw := hl.below hB2
          obtain ⟨b', o', y, e1, -, hbw', hy, s0⟩ := hlw.cells (Nat.lt_trans hjn hkn)
          cases e1
          obtain ⟨b'', o'', x', e2, -, _, hx', r0⟩ := hlw.cells hkn
          cases e2
          rw [Hx.out] at hx'
          cases hx'
          have hj0 : (0 : Int) ≤ j := by omega
          have hj1 : (j : Int) < l.length := by omega
          have hjk : (j : Int) < k := by omega
          have wj := wrapS (n := (j : Int) + 1) (by omega)
          have hne : y ≠ x := fun e => by
            subst e
            have := (List.getElem?_inj (by omega) hnd).1 (hy.trans Hx.out.symm)
            omega
          have hyx : (y == x) = false := by rw [beq_eq_false_iff_ne]; exact hne
          clear hy hne hlw hl hB hbw hbw'
          go_wp2
          go_quiet (fail)
          go_wp2
          exact ⟨⟨j + 1, hjn, rfl, ⟨hB2.os, hB2.tape, hB2.output, hB2.size, hB2.block⟩⟩, by simp [intOf]; omega⟩
        · clear hl hB
          go_wp2
          exact ⟨⟨j + 1, hkn, rfl, hB2⟩, by simp [intOf]; omega⟩
    · clear hl hb hnd
      go_wp2
      go_ret
      exact ⟨rfl, hB⟩
end Go.Proofs
