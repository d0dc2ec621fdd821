import Derived.Test.YtgmcdnabgojaeaaPeel
import Derived.Test.YtgmcdnabgojaeaaCheckV
import Derived.Test.YtgmcdnabgojaeaaFewR
import Derived.Lib.SliceRun
section
/- A part of what ShrinkR had: filter_take1, shrN. -/
namespace Go.Proofs
open Go.RowKit
set_option maxHeartbeats 8000000
set_option maxRecDepth 1000000
/-- A set shrunk by some steps. -/
def shrN : Nat → List Cel → List Cel
  | 0, L => L
  | n + 1, L => shrN n (L.filter (insB L))
theorem filter_take1 {f : Cel → Bool} {l : List Cel} {k : Nat} {c : Cel} (hc : l[k]? = some c) : (l.take (k + 1)).filter f = (l.take k).filter f ++ (if f c then [c] else []) := by
  rw [List.take_add_one, hc, List.filter_append]
  congr 1
  cases h : f c <;> simp [h]
end Go.Proofs
end

section
/- grid.Shrink: the first error, or the set shrunk. -/
namespace Go.Proofs
open Go.RowKit
set_option maxHeartbeats 8000000
set_option maxRecDepth 1000000
theorem eql_nil (w : World) : (binOp .eql 22 (.slice none 0 0) (.slice none 0 0)).run Try.prog w = .ok (.bool true) w := Go.Lib.run_eql_slice_nil w _ _ none 0 0 0 0 Try.underlying22
theorem eql_some (w : World) (a : Addr) (n c : Nat) : (binOp .eql 22 (.slice (some a) n c) (.slice none 0 0)).run Try.prog w = .ok (.bool false) w := Go.Lib.run_eql_slice_nil w _ _ (some a) n c 0 0 Try.underlying22
theorem clone_ok (l : List Cel) (v : Value) (w : World) (hl : Sl w v l) (hn : l.length ≤ 100000) :
    Calls Try.prog 33 #[v] w fun e w' => ∃ v', e = .returned v' ∧ Own w' w.heap.size v' l ∧ Below w.heap.size w w' := by
  have hq0 := eql_nil
  have hq1 := eql_some
  rcases hl with ⟨rfl, rfl⟩ | ⟨a, cap, rfl, hrow⟩
  · go_enter Try.func33, Try.ntmps33
    go_wp2
    go_ret
    exact ⟨_, rfl, Own.nil _ _, Below.refl _ _⟩
  · have hl : Sl w (.slice (some a) l.length cap) l := .inr ⟨a, cap, rfl, hrow⟩
    have hE : Own (w.alloc (.cells #[] 32)) w.heap.size (.slice (some ⟨w.heap.size, 0, none⟩) 0 0) [] := World.ownsRow_lit w #[] 0 (Nat.le_refl _) (Nat.zero_le _) rfl
    have hB0 : Below w.heap.size w (w.alloc (.cells #[] 32)) := (Below.refl _ _).alloc (Nat.le_refl _) _
    have hl0 := hl.below hB0
    clear hrow hl
    go_enter Try.func33, Try.ntmps33
    go_wp2_with (at_builtin; refine wpList_append_sl rfl _ _ rfl w.heap.size ?cE _ [] rfl hE _ l rfl hl0 ?cC ?_)
    case cC => simp; omega
    case cE => simp
    intro v1 w1 hown1 hB1
    clear hl0 hE
    go_wp2
    go_ret
    exact ⟨_, rfl, hown1, hB0.trans hB1⟩
theorem shrN_nil : ∀ n, shrN n [] = []
  | 0 => rfl
  | n + 1 => by unfold shrN; exact shrN_nil n
theorem shrinkG_bad (l : List Cel) (v : Value) (n : Int) (w : World) (hl : Sl w v l) (hn : l.length ≤ maxLen) (a1 a2 : Int) (hc1 : chkI l = a1) (hw1 : withinI n 0 64 = a2) (h0 : orI a1 a2 0 ≠ 0) :
    Calls Try.prog 12 #[v, .int .i64 n] w fun e w' => e = .returned (.tuple #[.slice none 0 0, .int .i64 (orI a1 a2 0)]) ∧ Below w.heap.size w w' := by
  have h1 := gridCheckG l v w hl hn
  rw [hc1] at h1
  have hne : (orI a1 a2 0 != 0) = true := by rw [bne_iff_ne]; exact h0
  have hf2 := fun blk W => first2_ok a1 a2 blk 2 W
  generalize orI a1 a2 0 = r at hne hf2 ⊢
  have k1 := fun W => within_ok n 0 64 W
  rw [hw1] at k1
  clear hl hn hc1 hw1 h0
  go_enter Try.func12, Try.ntmps12
  go_wp2_with fail
  refine h1.mono ?_
  rintro e w2 ⟨rfl, hB2⟩
  go_wp2_with fail
  refine (k1 _).mono ?_
  rintro e w3 ⟨rfl, hw3⟩
  subst hw3
  go_wp2_with (go_at_call 24; refine (hf2 _ _ ?_ ?_).mono ?_; (go_simp); (go_simp); rintro e w5 ⟨rfl, hw5⟩; subst hw5)
  go_ret2
  exact ⟨rfl, hB2.alloc hB2.size _⟩
theorem shrinkG_ok (l : List Cel) (v : Value) (n : Nat) (w : World) (hl : Sl w v l) (hc : chkI l = 0) (hn64 : n ≤ 64) :
    Calls Try.prog 12 #[v, .int .i64 n] w fun e w' => ∃ v', e = .returned (.tuple #[v', .int .i64 0]) ∧ Sl w' v' (shrN n l) ∧ Below w.heap.size w w' := by
  obtain ⟨hlen, hnear0, _⟩ := chkI_zero.1 hc
  have hnear : ∀ c ∈ l, Near c 2000 := fun c hcm => (hnear0 c hcm).mono (by omega)
  have h1 := gridCheckG l v w hl (by unfold maxLen; omega)
  rw [hc] at h1
  have hw : withinI n 0 64 = 0 := by unfold withinI; rw [if_neg (by omega)]
  have k1 := fun W => within_ok n 0 64 W
  rw [hw] at k1
  have hf2 := fun blk W => first2_ok 0 0 blk 2 W
  have hor : orI 0 0 0 = 0 := by decide
  rw [hor] at hf2
  have hcl := fun W (h : Below w.heap.size w W) => clone_ok l v W (hl.below h) (by omega)
  clear hor hw hl hc hnear0
  go_enter Try.func12, Try.ntmps12
  go_wp2_with fail
  refine h1.mono ?_
  rintro e w2 ⟨rfl, hB2⟩
  go_wp2_with fail
  refine (k1 _).mono ?_
  rintro e w3 ⟨rfl, hw3⟩
  subst hw3
  go_wp2_with fail
  refine (hf2 _ _ (by go_simp) (by go_simp)).mono ?_
  rintro e w5 ⟨rfl, hw5⟩
  have hX : Below w.heap.size w w5 := by subst hw5; exact hB2.alloc hB2.size _
  have q := hcl _ hX
  clear hw5 hB2 hcl hf2 k1 h1
  go_wp2_with fail
  refine q.mono ?_
  rintro e w6 ⟨v6, rfl, hown, hB6⟩
  have hX6 := hX.trans (hB6.mono hX.size)
  have hS6 := hown.sl
  clear q hown hX hB6
  go_wp2
  go_loopw [7, 8] (fun s t wr => ∃ (i : Nat) (L : List Cel), i ≤ n ∧ t = .int .i64 i ∧ Sl wr s L ∧ shrN (n - i) L = shrN n l ∧ L.length ≤ 100000 ∧ (∀ c ∈ L, Near c 2000) ∧ Below w.heap.size w wr) (fun _ t _ => n - (intOf t).toNat)
  case atStart => exact ⟨0, l, Nat.zero_le _, rfl, hS6, rfl, by omega, hnear, hX6⟩
  case round =>
    clear hX6 hS6 hnear hlen
    obtain ⟨i, L, hi, rfl, hS, hsh, hL, hnear, hB⟩ := hrel
    rename World => w7
    have q := peel_ok L _ w7 hS hL hnear
    rcases Nat.lt_or_eq_of_le hi with hlt | rfl
    · have hi0 : (i : Int) < n := by omega
      have wi := wrapS (n := (i : Int) + 1) (by omega)
      obtain ⟨A5, k5, rfl⟩ := hS.form
      cases L with
      | nil =>
        rw [shrN_nil] at hsh
        have Hsh := Lib.hid hsh
        clear q hsh hnear
        go_wp2
        go_ret2
        exact ⟨_, rfl, by rw [← Hsh.out]; exact hS, hB⟩
      | cons c0 L0 =>
        have hpos : (0 : Int) < ((c0 :: L0).length : Nat) := by simp
        have hsh' : shrN (n - (i + 1)) ((c0 :: L0).filter (insB (c0 :: L0))) = shrN n l := by rw [← hsh, show n - i = (n - (i + 1)) + 1 by omega]; rfl
        have Hsh := Lib.hid hsh'
        clear hsh hsh'
        generalize c0 :: L0 = L at hS hL hnear hpos Hsh q ⊢
        go_wp2_with fail
        refine q.mono ?_
        rintro e w8 ⟨v1, v2, rfl, h1, h2, hB8⟩
        have h2s := h2.sl
        clear q h1 h2 hS
        go_wp2
        exact ⟨⟨i + 1, _, hlt, rfl, h2s, Hsh.out, Nat.le_trans (List.length_filter_le ..) hL, fun c hc => hnear c (List.mem_filter.1 hc).1, hB.trans (hB8.mono hB.size)⟩, by simp [intOf]; omega⟩
    · rw [Nat.sub_self] at hsh
      have Hsh : Hid (L = shrN i l) := Lib.hid hsh
      clear hsh q
      go_wp2
      go_ret2
      exact ⟨_, rfl, by rw [← Hsh.out]; exact hS, hB⟩
end Go.Proofs
end
