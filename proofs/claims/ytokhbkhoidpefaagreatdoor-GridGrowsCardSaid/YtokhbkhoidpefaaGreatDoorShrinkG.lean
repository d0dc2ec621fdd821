import Derived.Test.YtokhbkhoidpefaaGreatDoorNear
import Derived.Test.YtokhbkhoidpefaaGreatDoorHas
import Derived.Test.YtokhbkhoidpefaaGreatDoorPeel
import Derived.Test.YtokhbkhoidpefaaGreatDoorUnionR
import Derived.Test.YtokhbkhoidpefaaGreatDoorCheckV
import Derived.Test.YtokhbkhoidpefaaGreatDoorFewR
import Derived.Lib.SliceRun
section
/- The reference's Shrink. -/
namespace Go.Proofs
open Go.RowKit
set_option maxHeartbeats 8000000
set_option maxRecDepth 1000000
/-- A set shrunk by some steps. -/
def shrN : Nat → List Cel → List Cel
  | 0, L => L
  | n + 1, L => shrN n (L.filter (insB L))
theorem filter_take1 {f : Cel → Bool} {l : List Cel} {k : Nat} {c : Cel} (hc : l[k]? = some c) : (l.take (k + 1)).filter f = (l.take k).filter f ++ (if f c then [c] else []) := by
  rw [List.take_add_one, hc, List.filter_append]
  congr 1
  cases h : f c <;> simp [h]
theorem refShrink_ok (l : List Cel) (v : Value) (n : Nat) (w : World) (hl : Sl w v l) (hn : l.length ≤ 100000) (hnear : ∀ c ∈ l, Near c 2000) (hn1 : n ≤ 1000) :
    Calls Tryz.prog 39 #[v, .int .i64 n] w fun e w' => ∃ v', e = .returned v' ∧ Own w' w.heap.size v' (shrN n l) ∧ Below w.heap.size w w' := by
  have hE : Own (w.alloc (.cells #[] 24)) w.heap.size (.slice (some ⟨w.heap.size, 0, none⟩) 0 0) [] := World.ownsRow_lit w #[] 0 (Nat.le_refl _) (Nat.zero_le _) rfl
  have hB0 : Below w.heap.size w (w.alloc (.cells #[] 24)) := (Below.refl _ _).alloc (Nat.le_refl _) _
  have hl0 := hl.below hB0
  go_enter Tryz.func39, Tryz.ntmps39
  go_wp2_with (at_builtin; refine wpList_append_sl rfl _ _ rfl w.heap.size ?cE _ [] rfl hE _ l rfl hl0 ?cC ?_)
  case cC => simp; omega
  case cE => simp
  intro v1 w1 hown1 hB1
  have hB01 := hB0.trans hB1
  clear hE hl0 hB0 hB1
  go_wp2
  go_loopw [5, 6] (fun s t wr => ∃ (i : Nat) (L : List Cel), i ≤ n ∧ t = .int .i64 i ∧ Own wr w.heap.size s L ∧ shrN (n - i) L = shrN n l ∧ L.length ≤ 100000 ∧ (∀ c ∈ L, Near c 2000) ∧ Below w.heap.size w wr) (fun _ t _ => n - (intOf t).toNat)
  case atStart => exact ⟨0, l, Nat.zero_le _, rfl, hown1, rfl, hn, hnear, hB01⟩
  case round =>
    clear hown1 hB01 hl hn hnear
    obtain ⟨i, L, hi, rfl, hown, hsh, hL, hnear, hB⟩ := hrel
    rename World => w2
    rcases Nat.lt_or_eq_of_le hi with hlt | rfl
    · have hi0 : (i : Int) < n := by omega
      have wi := wrapS (n := (i : Int) + 1) (by omega)
      have hS := hown.sl
      have hsh' : shrN (n - (i + 1)) (L.filter (insB L)) = shrN n l := by rw [← hsh, show n - i = (n - (i + 1)) + 1 by omega]; rfl
      have Hsh := Lib.hid hsh'
      clear hsh hsh' hown
      obtain ⟨A5, k5, rfl⟩ := hS.form
      go_wp2
      go_loopw [7, 8] (fun s t wr => ∃ k : Nat, k ≤ L.length ∧ t = .int .i64 k ∧ Own wr w2.heap.size s ((L.take k).filter (insB L)) ∧ Below w2.heap.size w2 wr) (fun _ t _ => L.length - (intOf t).toNat)
      case atStart => exact ⟨0, Nat.zero_le _, rfl, by simpa using Own.nil _ _, Below.refl _ _⟩
      case round =>
        obtain ⟨k, hk, rfl, hown7, hB2⟩ := hrel
        rename World => w3
        rcases Nat.lt_or_eq_of_le hk with hkn | rfl
        · have hk0 : (0 : Int) ≤ k := by omega
          have hk1 : (k : Int) < L.length := by omega
          have wk := wrapS (n := (k : Int) + 1) (by omega)
          obtain ⟨b, o, x, y, z, rfl, -, hb, hc, r0, r1, r2⟩ := hS.cells hkn
          have q := refNear_ok (x, y, z) ((hnear _ (List.mem_of_getElem? hc)).mono (by omega)) w3
          unfold cellV at q
          dsimp only at q
          have hsz := hB2.size
          have R0 := (hB2.cell (p := ⟨b, _, none⟩) hb).trans r0
          have R1 := (hB2.cell (p := ⟨b, _, none⟩) hb).trans r1
          have R2 := (hB2.cell (p := ⟨b, _, none⟩) hb).trans r2
          have hft := filter_take1 (f := insB L) hc
          have Hft := Lib.hid hft
          have Hc := Lib.hid hc
          clear hft hc
          go_wp2_with (go_at_call 90; refine q.mono ?_; rintro e w4 ⟨v9, rfl, hown9, hB4⟩)
          have hS9 := hown9.sl
          have hB34 := hB2.trans (hB4.mono hsz)
          have hown74 := hown7.keep hB4
          clear q R0 R1 R2 hown9
          obtain ⟨A9, k9, rfl⟩ : ∃ (A9 : Option Addr) (k9 : Nat), v9 = .slice A9 6 k9 := hS9.form
          go_loopw [10, 11] (fun s t wr => ∃ j : Nat, j ≤ 6 ∧ t = .int .i64 j ∧ s = .bool (((nearL (x, y, z)).take j).all fun d => decide (d ∈ L)) ∧ Below w4.heap.size w4 wr) (fun _ t _ => 6 - (intOf t).toNat)
          case atStart => exact ⟨0, by omega, rfl, rfl, Below.refl _ _⟩
          case round =>
            obtain ⟨j, hj, rfl, rfl, hB5⟩ := hrel
            rename World => w5
            rcases Nat.lt_or_eq_of_le hj with hjn | rfl
            · have hj0 : (0 : Int) ≤ j := by omega
              have hj1 : (j : Int) < 6 := by omega
              have wj := wrapS (n := (j : Int) + 1) (by omega)
              obtain ⟨b9, o9, x', y', z', rfl, -, hb9, hc9, q0, q1, q2⟩ := hS9.cells (k := j) hjn
              have S0 := (hB5.cell (p := ⟨b9, _, none⟩) hb9).trans q0
              have S1 := (hB5.cell (p := ⟨b9, _, none⟩) hb9).trans q1
              have S2 := (hB5.cell (p := ⟨b9, _, none⟩) hb9).trans q2
              have hst : (((nearL (x, y, z)).take (j + 1)).all fun d => decide (d ∈ L)) = ((((nearL (x, y, z)).take j).all fun d => decide (d ∈ L)) && decide ((x', y', z') ∈ L)) := by
                rw [List.take_add_one, hc9]
                simp
              have Hst := Lib.hid hst
              have q := has_ok L _ x' y' z' w5 (hS.below ((hB2.trans (hB4.mono hsz)).trans (hB5.mono (Nat.le_trans hsz hB4.size)))) (by omega)
              have hsz5 := hB5.size
              clear hst hc9 q0 q1 q2
              cases hb : (((nearL (x, y, z)).take j).all fun d => decide (d ∈ L)) with
              | true =>
                rw [hb] at Hst
                clear hb
                go_wp2_with (go_at_call 32; refine q.mono ?_; rintro e w6 ⟨rfl, hB6⟩)
                exact ⟨⟨j + 1, hjn, rfl, by rw [Hst.out]; simp, hB5.trans (hB6.mono hsz5)⟩, by simp [intOf]; omega⟩
              | false =>
                rw [hb] at Hst
                clear hb q
                go_wp2
                exact ⟨⟨j + 1, hjn, rfl, by rw [Hst.out]; simp, hB5⟩, by simp [intOf]; omega⟩
            · have hin : (((nearL (x, y, z)).take 6).all fun d => decide (d ∈ L)) = insB L (x, y, z) := rfl
              rw [hin]
              have hB25 := hB34.trans (hB5.mono (Nat.le_trans hsz hB4.size))
              have hown75 := hown74.keep hB5
              have R0 := (hB25.cell (p := ⟨b, _, none⟩) hb).trans r0
              have R1 := (hB25.cell (p := ⟨b, _, none⟩) hb).trans r1
              have R2 := (hB25.cell (p := ⟨b, _, none⟩) hb).trans r2
              have hlenf : ((L.take k).filter (insB L)).length ≤ 100000 := Nat.le_trans (List.length_filter_le ..) (by rw [List.length_take]; omega)
              clear hin r0 r1 r2
              cases hi : insB L (x, y, z) with
              | true =>
                rw [hi] at Hft
                simp only [if_true] at Hft
                clear hi
                go_upto_region 16 with fail
                go_wp2_with (at_builtin; refine wpList_append_sl rfl _ _ rfl w2.heap.size ?dE _ ((L.take k).filter (insB L)) rfl (hown75.alloc _) _ [(x, y, z)] rfl (.inr ⟨_, 1, rfl, row_one w5 x y z⟩) ?dC ?_)
                case dC => simp; omega
                case dE => simp; have := hB25.size; omega
                intro v8 w7 hown8 hB8
                have hB27 := (hB25.alloc hB25.size (.cells #[.int .i64 x, .int .i64 y, .int .i64 z] 24)).trans hB8
                clear R0 R1 R2
                go_wp2
                go_roundw
                case rel => exact ⟨k + 1, hkn, rfl, by rw [Hft.out]; exact hown8, hB27⟩
                case measure => simp [intOf]; omega
              | false =>
                rw [hi] at Hft
                simp only [Bool.false_eq_true, if_false, List.append_nil] at Hft
                clear hi
                go_wp2
                go_roundw
                case rel => exact ⟨k + 1, hkn, rfl, by rw [Hft.out]; exact hown75, hB25⟩
                case measure => simp [intOf]; omega
        · rw [List.take_length] at hown7
          clear hS
          go_wp2
          go_roundw
          case rel => exact ⟨i + 1, _, hlt, rfl, hown7.lower hB.size, Hsh.out, Nat.le_trans (List.length_filter_le ..) hL, fun c hc => hnear c (List.mem_filter.1 hc).1, hB.trans (hB2.mono hB.size)⟩
          case measure => simp [intOf]; omega
    · rw [Nat.sub_self] at hsh
      have Hsh : Hid (L = shrN i l) := Lib.hid hsh
      clear hsh
      go_wp2
      go_ret
      exact ⟨_, rfl, by rw [← Hsh.out]; exact hown, hB⟩
end Go.Proofs
end

section
/- grid.Shrink: the first error, or the set shrunk. -/
namespace Go.Proofs
open Go.RowKit
set_option maxHeartbeats 8000000
set_option maxRecDepth 1000000
theorem eql_nil (w : World) : (binOp .eql 22 (.slice none 0 0) (.slice none 0 0)).run Tryz.prog w = .ok (.bool true) w := Go.Lib.run_eql_slice_nil w _ _ none 0 0 0 0 Tryz.underlying22
theorem eql_some (w : World) (a : Addr) (n c : Nat) : (binOp .eql 22 (.slice (some a) n c) (.slice none 0 0)).run Tryz.prog w = .ok (.bool false) w := Go.Lib.run_eql_slice_nil w _ _ (some a) n c 0 0 Tryz.underlying22
theorem clone_ok (l : List Cel) (v : Value) (w : World) (hl : Sl w v l) (hn : l.length ≤ 100000) :
    Calls Tryz.prog 94 #[v] w fun e w' => ∃ v', e = .returned v' ∧ Own w' w.heap.size v' l ∧ Below w.heap.size w w' := by
  have hq0 := eql_nil
  have hq1 := eql_some
  rcases hl with ⟨rfl, rfl⟩ | ⟨a, cap, rfl, hrow⟩
  · go_enter Tryz.func94, Tryz.ntmps94
    go_wp2
    go_ret
    exact ⟨_, rfl, Own.nil _ _, Below.refl _ _⟩
  · have hl : Sl w (.slice (some a) l.length cap) l := .inr ⟨a, cap, rfl, hrow⟩
    have hE : Own (w.alloc (.cells #[] 24)) w.heap.size (.slice (some ⟨w.heap.size, 0, none⟩) 0 0) [] := World.ownsRow_lit w #[] 0 (Nat.le_refl _) (Nat.zero_le _) rfl
    have hB0 : Below w.heap.size w (w.alloc (.cells #[] 24)) := (Below.refl _ _).alloc (Nat.le_refl _) _
    have hl0 := hl.below hB0
    clear hrow hl
    go_enter Tryz.func94, Tryz.ntmps94
    go_wp2_with (at_builtin; refine wpList_append_sl rfl _ _ rfl w.heap.size ?cE _ [] rfl hE _ l rfl hl0 ?cC ?_)
    case cC => simp; omega
    case cE => simp
    intro v1 w1 hown1 hB1
    clear hl0 hE
    go_wp2
    go_ret
    exact ⟨_, rfl, hown1, hB0.trans hB1⟩
theorem shrN_nil : ∀ n, shrN n [] = []
  | 0 => rfl
  | n + 1 => by unfold shrN; exact shrN_nil n
theorem shrinkG_bad (l : List Cel) (v : Value) (n : Int) (w : World) (hl : Sl w v l) (hn : l.length ≤ maxLen) (a1 a2 : Int) (hc1 : chkI l = a1) (hw1 : withinI n 0 64 = a2) (h0 : orI a1 a2 0 ≠ 0) :
    Calls Tryz.prog 35 #[v, .int .i64 n] w fun e w' => e = .returned (.tuple #[.slice none 0 0, .int .i64 (orI a1 a2 0)]) ∧ Below w.heap.size w w' := by
  have h1 := gridCheckG l v w hl hn
  rw [hc1] at h1
  have hne : (orI a1 a2 0 != 0) = true := by rw [bne_iff_ne]; exact h0
  have hf2 := fun blk W => first2_ok a1 a2 blk 2 W
  generalize orI a1 a2 0 = r at hne hf2 ⊢
  have k1 := fun W => within_ok n 0 64 W
  rw [hw1] at k1
  clear hl hn hc1 hw1 h0
  go_enter Tryz.func35, Tryz.ntmps35
  go_wp2_with fail
  refine h1.mono ?_
  rintro e w2 ⟨rfl, hB2⟩
  go_wp2_with fail
  refine (k1 _).mono ?_
  rintro e w3 ⟨rfl, hw3⟩
  subst hw3
  go_wp2_with (go_at_call 63; refine (hf2 _ _ ?_ ?_).mono ?_; (go_simp); (go_simp); rintro e w5 ⟨rfl, hw5⟩; subst hw5)
  go_ret2
  exact ⟨rfl, hB2.alloc hB2.size _⟩
theorem shrinkG_ok (l : List Cel) (v : Value) (n : Nat) (w : World) (hl : Sl w v l) (hc : chkI l = 0) (hn64 : n ≤ 64) :
    Calls Tryz.prog 35 #[v, .int .i64 n] w fun e w' => ∃ v', e = .returned (.tuple #[v', .int .i64 0]) ∧ Sl w' v' (shrN n l) ∧ Below w.heap.size w w' := by
  obtain ⟨hlen, hnear0, _⟩ := chkI_zero.1 hc
  have hnear : ∀ c ∈ l, Near c 2000 := fun c hcm => (hnear0 c hcm).mono (by omega)
  have h1 := gridCheckG l v w hl (by unfold maxLen; omega)
  rw [hc] at h1
  have hw : withinI n 0 64 = 0 := by unfold withinI; rw [if_neg (by omega)]
  have k1 := fun W => within_ok n 0 64 W
  rw [hw] at k1
  have hf2 := fun blk W => first2_ok 0 0 blk 2 W
  have hor : orI 0 0 0 = 0 := by decide
  rw [hor] at hf2
  have hcl := fun W (h : Below w.heap.size w W) => clone_ok l v W (hl.below h) (by omega)
  clear hor hw hl hc hnear0
  go_enter Tryz.func35, Tryz.ntmps35
  go_wp2_with fail
  refine h1.mono ?_
  rintro e w2 ⟨rfl, hB2⟩
  go_wp2_with fail
  refine (k1 _).mono ?_
  rintro e w3 ⟨rfl, hw3⟩
  subst hw3
  go_wp2_with fail
  refine (hf2 _ _ (by go_simp) (by go_simp)).mono ?_
  rintro e w5 ⟨rfl, hw5⟩
  have hX : Below w.heap.size w w5 := by subst hw5; exact hB2.alloc hB2.size _
  have q := hcl _ hX
  clear hw5 hB2 hcl hf2 k1 h1
  go_wp2_with fail
  refine q.mono ?_
  rintro e w6 ⟨v6, rfl, hown, hB6⟩
  have hX6 := hX.trans (hB6.mono hX.size)
  have hS6 := hown.sl
  clear q hown hX hB6
  go_wp2
  go_loopw [7, 8] (fun s t wr => ∃ (i : Nat) (L : List Cel), i ≤ n ∧ t = .int .i64 i ∧ Sl wr s L ∧ shrN (n - i) L = shrN n l ∧ L.length ≤ 100000 ∧ (∀ c ∈ L, Near c 2000) ∧ Below w.heap.size w wr) (fun _ t _ => n - (intOf t).toNat)
  case atStart => exact ⟨0, l, Nat.zero_le _, rfl, hS6, rfl, by omega, hnear, hX6⟩
  case round =>
    clear hX6 hS6 hnear hlen
    obtain ⟨i, L, hi, rfl, hS, hsh, hL, hnear, hB⟩ := hrel
    rename World => w7
    have q := peel_ok L _ w7 hS hL hnear
    rcases Nat.lt_or_eq_of_le hi with hlt | rfl
    · have hi0 : (i : Int) < n := by omega
      have wi := wrapS (n := (i : Int) + 1) (by omega)
      obtain ⟨A5, k5, rfl⟩ := hS.form
      cases L with
      | nil =>
        rw [shrN_nil] at hsh
        have Hsh := Lib.hid hsh
        clear q hsh hnear
        go_wp2
        go_ret2
        exact ⟨_, rfl, by rw [← Hsh.out]; exact hS, hB⟩
      | cons c0 L0 =>
        have hpos : (0 : Int) < ((c0 :: L0).length : Nat) := by simp
        have hsh' : shrN (n - (i + 1)) ((c0 :: L0).filter (insB (c0 :: L0))) = shrN n l := by rw [← hsh, show n - i = (n - (i + 1)) + 1 by omega]; rfl
        have Hsh := Lib.hid hsh'
        clear hsh hsh'
        generalize c0 :: L0 = L at hS hL hnear hpos Hsh q ⊢
        go_wp2_with fail
        refine q.mono ?_
        rintro e w8 ⟨v1, v2, rfl, h1, h2, hB8⟩
        have h2s := h2.sl
        clear q h1 h2 hS
        go_wp2
        exact ⟨⟨i + 1, _, hlt, rfl, h2s, Hsh.out, Nat.le_trans (List.length_filter_le ..) hL, fun c hc => hnear c (List.mem_filter.1 hc).1, hB.trans (hB8.mono hB.size)⟩, by simp [intOf]; omega⟩
    · rw [Nat.sub_self] at hsh
      have Hsh : Hid (L = shrN i l) := Lib.hid hsh
      clear hsh q
      go_wp2
      go_ret2
      exact ⟨_, rfl, by rw [← Hsh.out]; exact hS, hB⟩
end Go.Proofs
end
