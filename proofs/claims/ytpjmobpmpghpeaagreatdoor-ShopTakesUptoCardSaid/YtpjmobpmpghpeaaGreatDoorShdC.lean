import Derived.Test.YtpjmobpmpghpeaaGreatDoorCompare
import Derived.Test.YtpjmobpmpghpeaaGreatDoorShdP
import Derived.Deep.QuietTactic
import Derived.Deep.RegionWith
import Derived.Deep.RegionHeld3
section
namespace Go.Proofs
set_option maxHeartbeats 4000000
set_option maxRecDepth 1000000
def withinI (n lo hi : Int) : Int := if n < lo ∨ hi < n then 3 else 0
theorem checkRange_ok (n lo hi : Int) (w : World) : Calls Tryz.prog 16 #[.int .i64 n, .int .i64 lo, .int .i64 hi] w fun e w' => e = .returned (.int .i64 (withinI n lo hi)) ∧ w' = w := by
  unfold withinI
  go_enter Tryz.func16, Tryz.ntmps16
  go_wp2
  all_goals go_ret
  all_goals (refine ⟨?_, rfl⟩; simp_all <;> omega)
end Go.Proofs
end

section
/- Shades: names, ranges and colours, in the reference and in the program. -/
namespace Go.Proofs
open Go.RowKit
set_option maxHeartbeats 8000000
set_option maxRecDepth 1000000
def letterB (c : Nat) : Bool := (decide (65 ≤ c) && decide (c ≤ 90)) || (decide (97 ≤ c) && decide (c ≤ 122))
def furtherB (c : Nat) : Bool := (decide (48 ≤ c) && decide (c ≤ 57)) || decide (c = 95)
def NameOk (s : ByteArray) : Prop := 1 ≤ s.size ∧ s.size ≤ 24 ∧ ∀ i (h : i < s.size), letterB (s[i]'h).toNat = true ∨ (i ≠ 0 ∧ furtherB (s[i]'h).toNat = true)
def PreName (s : ByteArray) (k : Nat) : Prop := ∀ i (h : i < s.size), i < k → letterB (s[i]'h).toNat = true ∨ (i ≠ 0 ∧ furtherB (s[i]'h).toNat = true)
theorem pre_step {s : ByteArray} {k : Nat} (hp : PreName s k) (hk : k < s.size) (h : letterB (s[k]'hk).toNat = true ∨ (k ≠ 0 ∧ furtherB (s[k]'hk).toNat = true)) : PreName s (k + 1) := fun i hi hik => by
  rcases Nat.lt_or_eq_of_le (Nat.le_of_lt_succ hik) with h1 | rfl
  · exact hp i hi h1
  · exact h
def NameE (s : ByteArray) (w : World) (e : Ending) (w' : World) : Prop := ∃ r : Bool, e = .returned (.bool r) ∧ (r = true → NameOk s) ∧ w' = w
theorem nameE_no (s : ByteArray) (w : World) : NameE s w (.returned (.bool false)) w := ⟨false, rfl, fun h => (by cases h), rfl⟩
theorem refName_ok (s : ByteArray) (w : World) : Calls Tryz.prog 15 #[.string s] w (NameE s w) := by
  go_enter Tryz.func15, Tryz.ntmps15
  go_wp2
  all_goals (try (go_ret; exact nameE_no s w))
  rename_i hs
  go_loopw [3] (fun i wr => ∃ k : Nat, k ≤ s.size ∧ i = .int .i64 k ∧ wr = w ∧ PreName s k) (fun i _ => s.size - (intOf i).toNat)
  case atStart => exact ⟨0, Nat.zero_le _, rfl, rfl, fun i h hi => absurd hi (Nat.not_lt_zero i)⟩
  case round =>
    obtain ⟨k, hk, rfl, rfl, hp⟩ := hrel
    rcases Nat.lt_or_eq_of_le hk with hkn | rfl
    · have hi0 : (0 : Int) ≤ k := by omega
      have hi1 : (k : Int) < s.size := by omega
      go_wp2
      all_goals (first
        | (go_ret; exact nameE_no s _)
        | (refine ⟨⟨k + 1, hkn, by simp_all, by first | trivial | rfl, pre_step hp hkn ?_⟩, by simp_all [intOf] <;> omega⟩
           simp only [letterB, furtherB, Bool.or_eq_true, Bool.and_eq_true, decide_eq_true_eq]
           simp_all
           try omega))
    · go_wp2
      go_ret
      exact ⟨true, rfl, fun _ => ⟨by omega, by omega, fun i h => hp i h h⟩, rfl⟩
theorem refRange9_ok (n lo hi : Int) (w : World) : Calls Tryz.prog 53 #[.int .i64 n, .int .i64 lo, .int .i64 hi] w fun e w' => e = .returned (.int .i64 (withinI n lo hi)) ∧ w' = w := by
  have h := checkRange_ok n lo hi w
  go_enter Tryz.func53, Tryz.ntmps53
  go_wp2_with (go_at_call 16; refine h.mono ?_; rintro e w1 ⟨rfl, rfl⟩)
  go_ret
  exact ⟨rfl, rfl⟩
end Go.Proofs
end

section
/- Shades: a colour of the reference, and small functions of the program. -/
namespace Go.Proofs
open Go.RowKit
set_option maxHeartbeats 8000000
set_option maxRecDepth 1000000
theorem within_cases (n lo hi : Int) : 0 ≤ withinI n lo hi ∧ withinI n lo hi ≤ 3 ∧ (withinI n lo hi = 0 ↔ lo ≤ n ∧ n ≤ hi) := by
  unfold withinI
  split
  · rename_i h
    refine ⟨by omega, by omega, by omega⟩
  · refine ⟨by omega, by omega, by omega⟩
theorem wrap_small {n : Int} (h : -1000000000000000 ≤ n ∧ n ≤ 1000000000000000) : IntKind.i64.wrap n = n := by
  simp [IntKind.wrap, IntKind.bits, IntKind.signed]; omega
theorem wrap64_small {n : Int} (h : -1000000000000000 ≤ n ∧ n ≤ 1000000000000000) : wrap64 n = n := by unfold wrap64; omega
theorem below_drewN {B : Nat} {w w' : World} (h : Below B w w') (n : Nat) : Below B w (w'.drewN n) := ⟨h.os, h.tape, h.output, h.size, h.block⟩
def ColOk (c : Cel) (lo hi : Int) : Prop := (lo ≤ c.1 ∧ c.1 ≤ hi) ∧ (lo ≤ c.2.1 ∧ c.2.1 ≤ hi) ∧ (lo ≤ c.2.2 ∧ c.2.2 ≤ hi)
def sumE (c : Cel) (lo hi : Int) : Int := withinI c.1 lo hi + withinI c.2.1 lo hi + withinI c.2.2 lo hi
theorem sumE_ok (c : Cel) (lo hi : Int) : sumE c lo hi = 0 ↔ ColOk c lo hi := by
  unfold sumE ColOk
  have h1 := within_cases c.1 lo hi
  have h2 := within_cases c.2.1 lo hi
  have h3 := within_cases c.2.2 lo hi
  constructor
  · intro h
    exact ⟨h1.2.2.1 (by omega), h2.2.2.1 (by omega), h3.2.2.1 (by omega)⟩
  · rintro ⟨a, b, c⟩
    rw [h1.2.2.2 a, h2.2.2.2 b, h3.2.2.2 c]
    rfl
def colE (c : Cel) : Int := if sumE c 0 255 ≠ 0 then 3 else 0
theorem refColour_ok (c : Cel) (w : World) : Calls Tryz.prog 25 #[colV c] w fun e w' => e = .returned (.int .i64 (colE c)) ∧ Below w.heap.size w w' := by
  have h1 := within_cases c.1 0 255
  have h2 := within_cases c.2.1 0 255
  have h3 := within_cases c.2.2 0 255
  have e1 := wrap64_small (n := withinI c.1 0 255 + withinI c.2.1 0 255) (by omega)
  have e2 := wrap64_small (n := withinI c.1 0 255 + withinI c.2.1 0 255 + withinI c.2.2 0 255) (by omega)
  have e3 := wrap_small (n := withinI c.1 0 255 + withinI c.2.1 0 255) (by omega)
  have e4 := wrap_small (n := withinI c.1 0 255 + withinI c.2.1 0 255 + withinI c.2.2 0 255) (by omega)
  have q0 : sumE c 0 255 = 0 → colE c = 0 := fun h => by unfold colE; rw [if_neg (by omega)]
  have q1 : sumE c 0 255 ≠ 0 → colE c = 3 := fun h => by unfold colE; rw [if_pos h]
  generalize colE c = q at q0 q1 ⊢
  unfold sumE at q0 q1
  unfold colV
  clear h1 h2 h3
  obtain ⟨x, y, z⟩ := c
  dsimp only at e1 e2 e3 e4 q0 q1 ⊢
  obtain ⟨W0, hW⟩ : ∃ W0, W0 = (w.alloc (.cells #[.int .i64 x, .int .i64 y, .int .i64 z] 47)) := ⟨_, rfl⟩
  have hB0 : Below w.heap.size w W0 := by subst hW; exact (Below.refl _ _).alloc (Nat.le_refl _) _
  have c0 : W0.cell? ⟨w.heap.size, 0, none⟩ = some (.int .i64 x) := by subst hW; go_simp
  have c1 : W0.cell? ⟨w.heap.size, 1, none⟩ = some (.int .i64 y) := by subst hW; go_simp
  have c2 : W0.cell? ⟨w.heap.size, 2, none⟩ = some (.int .i64 z) := by subst hW; go_simp
  go_enter Tryz.func25, Tryz.ntmps25
  go_wp2_with fail
  rw [← hW]
  clear hW
  go_quiet (exact Calls.quiet_of_same (refRange9_ok _ _ _ _))
  clear e1 e2 e3 e4 c0 c1 c2
  generalize withinI x 0 255 + withinI y 0 255 + withinI z 0 255 = r at q0 q1 ⊢
  by_cases h0 : r = 0
  · subst h0
    obtain rfl := q0 rfl
    clear q0 q1
    go_wp2
    go_ret
    exact ⟨rfl, below_drewN hB0 _⟩
  · obtain rfl := q1 h0
    clear q0 q1
    go_wp2
    go_ret
    exact ⟨rfl, below_drewN hB0 _⟩
theorem shWithin_ok (n lo hi : Int) (w : World) : Calls Tryz.prog 51 #[.int .i64 n, .int .i64 lo, .int .i64 hi] w fun e w' => e = .returned (.int .i64 (withinI n lo hi)) ∧ w' = w := by
  have hw : ∀ (b : Bool) (n : Int) (W : World), Calls Tryz.prog 60 #[.bool b, .int .i64 n] W fun e w' => e = .returned (.int .i64 (if b then n else 0)) ∧ w' = W := fun b n W => by
    cases b
    · go_enter Tryz.func60, Tryz.ntmps60
      go_wp2
      go_ret
      exact ⟨rfl, rfl⟩
    · go_enter Tryz.func60, Tryz.ntmps60
      go_wp2
      go_ret
      exact ⟨rfl, rfl⟩
  unfold withinI
  go_enter Tryz.func51, Tryz.ntmps51
  go_wp2_with (go_at_call 60; refine (hw _ _ _).mono ?_; rintro e w1 ⟨rfl, rfl⟩)
  all_goals go_ret
  all_goals (refine ⟨?_, rfl⟩; simp_all <;> omega)
end Go.Proofs
end

section
/- Shades: guides in the reference: ShortGuide, CheckGuide, Distance. -/
namespace Go.Proofs
open Go.RowKit
set_option maxHeartbeats 16000000
set_option maxRecDepth 1000000
def gdV (ws : Cel) (v : Value) : Value := .agg #[.int .i64 ws.1, .int .i64 ws.2.1, .int .i64 ws.2.2, v]
def BoolS (w : World) (e : Ending) (w' : World) : Prop := (∃ r : Bool, e = .returned (.bool r)) ∧ Below w.heap.size w w'
theorem boolS_mk {w w' : World} (r : Bool) (hb : Below w.heap.size w w') : BoolS w (.returned (.bool r)) w' := ⟨⟨r, rfl⟩, hb⟩
theorem refShortG_ok (ws : Cel) (v : Value) (l : List TabT) (n : Int) (w : World) (hl : SlT w v l) :
    Calls Tryz.prog 20 #[gdV ws v, .int .i64 n] w (BoolS w) := by
  obtain ⟨A, cap, rfl⟩ := hl.form
  obtain ⟨x, y, z⟩ := ws
  unfold gdV
  dsimp only
  have hB0 : Below w.heap.size w (w.alloc (.cells #[.int .i64 x, .int .i64 y, .int .i64 z, .slice A l.length cap] 53)) := (Below.refl _ _).alloc (Nat.le_refl _) _
  have c3 : (w.alloc (.cells #[.int .i64 x, .int .i64 y, .int .i64 z, .slice A l.length cap] 53)).cell? ⟨w.heap.size, 3, none⟩ = some (.slice A l.length cap) := by go_simp
  have hl0 := hl.below hB0
  clear hl
  go_enter Tryz.func20, Tryz.ntmps20
  go_wp2
  all_goals (try (go_ret; exact boolS_mk _ hB0))
  all_goals (
    go_loopw [5] (fun i wr => ∃ k : Nat, k ≤ l.length ∧ i = .int .i64 k ∧ wr.cell? ⟨w.heap.size, 3, none⟩ = some (.slice A l.length cap) ∧ SlT wr (.slice A l.length cap) l ∧ Below w.heap.size w wr) (fun i _ => l.length - (intOf i).toNat)
    case atStart => exact ⟨0, Nat.zero_le _, rfl, c3, hl0, hB0⟩
    case round =>
      clear c3 hl0 hB0
      obtain ⟨k, hk, rfl, c3, hl0, hB0⟩ := hrel
      rcases Nat.lt_or_eq_of_le hk with hkn | rfl
      · obtain ⟨b, o, s, x1, y1, z1, rfl, -, hb, hc, r0, r1, r2, r3⟩ := hl0.cells hkn
        have hi0 : (0 : Int) ≤ k := by omega
        have hi1 : (k : Int) < l.length := by omega
        go_wp2
        all_goals (first
          | (go_ret; exact boolS_mk _ hB0)
          | (refine ⟨⟨k + 1, hkn, by simp_all, c3, hl0, hB0⟩, by simp_all [intOf] <;> omega⟩))
      · go_wp2
        go_ret
        exact boolS_mk _ hB0)
end Go.Proofs
end
