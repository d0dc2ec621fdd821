import Derived.Test.YtdiddniddohhgaaGreatDoorCompare
import Derived.Test.YtdiddniddohhgaaGreatDoorShdP
import Derived.Deep.QuietTactic
import Derived.Deep.RegionWith
import Derived.Deep.RegionHeld3
section
namespace Go.Proofs
set_option maxHeartbeats 4000000
set_option maxRecDepth 1000000
def withinI (n lo hi : Int) : Int := if n < lo ∨ hi < n then 3 else 0
theorem checkRange_ok (n lo hi : Int) (w : World) : Calls Tryz.prog 98 #[.int .i64 n, .int .i64 lo, .int .i64 hi] w fun e w' => e = .returned (.int .i64 (withinI n lo hi)) ∧ w' = w := by
  unfold withinI
  go_enter Tryz.func98, Tryz.ntmps98
  go_wp2
  all_goals go_ret
  all_goals (refine ⟨?_, rfl⟩; simp_all <;> omega)
end Go.Proofs
end

section
/- Shades: names, ranges and colours, in the reference and in the program. -/
namespace Go.Proofs
open Go.RowKit
set_option maxHeartbeats 8000000
set_option maxRecDepth 1000000
def letterB (c : Nat) : Bool := (decide (65 ≤ c) && decide (c ≤ 90)) || (decide (97 ≤ c) && decide (c ≤ 122))
def furtherB (c : Nat) : Bool := (decide (48 ≤ c) && decide (c ≤ 57)) || decide (c = 95)
def NameOk (s : ByteArray) : Prop := 1 ≤ s.size ∧ s.size ≤ 24 ∧ ∀ i (h : i < s.size), letterB (s[i]'h).toNat = true ∨ (i ≠ 0 ∧ furtherB (s[i]'h).toNat = true)
def PreName (s : ByteArray) (k : Nat) : Prop := ∀ i (h : i < s.size), i < k → letterB (s[i]'h).toNat = true ∨ (i ≠ 0 ∧ furtherB (s[i]'h).toNat = true)
theorem pre_step {s : ByteArray} {k : Nat} (hp : PreName s k) (hk : k < s.size) (h : letterB (s[k]'hk).toNat = true ∨ (k ≠ 0 ∧ furtherB (s[k]'hk).toNat = true)) : PreName s (k + 1) := fun i hi hik => by
  rcases Nat.lt_or_eq_of_le (Nat.le_of_lt_succ hik) with h1 | rfl
  · exact hp i hi h1
  · exact h
def NameE (s : ByteArray) (w : World) (e : Ending) (w' : World) : Prop := ∃ r : Bool, e = .returned (.bool r) ∧ (r = true → NameOk s) ∧ w' = w
theorem nameE_no (s : ByteArray) (w : World) : NameE s w (.returned (.bool false)) w := ⟨false, rfl, fun h => (by cases h), rfl⟩
theorem refName_ok (s : ByteArray) (w : World) : Calls Tryz.prog 45 #[.string s] w (NameE s w) := by
  go_enter Tryz.func45, Tryz.ntmps45
  go_wp2
  all_goals (try (go_ret; exact nameE_no s w))
  rename_i hs
  go_loopw [3] (fun i wr => ∃ k : Nat, k ≤ s.size ∧ i = .int .i64 k ∧ wr = w ∧ PreName s k) (fun i _ => s.size - (intOf i).toNat)
  case atStart => exact ⟨0, Nat.zero_le _, rfl, rfl, fun i h hi => absurd hi (Nat.not_lt_zero i)⟩
  case round =>
    obtain ⟨k, hk, rfl, rfl, hp⟩ := hrel
    rcases Nat.lt_or_eq_of_le hk with hkn | rfl
    · have hi0 : (0 : Int) ≤ k := by omega
      have hi1 : (k : Int) < s.size := by omega
      go_wp2
      all_goals (first
        | (go_ret; exact nameE_no s _)
        | (refine ⟨⟨k + 1, hkn, by simp_all, by first | trivial | rfl, pre_step hp hkn ?_⟩, by simp_all [intOf] <;> omega⟩
           simp only [letterB, furtherB, Bool.or_eq_true, Bool.and_eq_true, decide_eq_true_eq]
           simp_all
           try omega))
    · go_wp2
      go_ret
      exact ⟨true, rfl, fun _ => ⟨by omega, by omega, fun i h => hp i h h⟩, rfl⟩
theorem refRange9_ok (n lo hi : Int) (w : World) : Calls Tryz.prog 44 #[.int .i64 n, .int .i64 lo, .int .i64 hi] w fun e w' => e = .returned (.int .i64 (withinI n lo hi)) ∧ w' = w := by
  have h := checkRange_ok n lo hi w
  go_enter Tryz.func44, Tryz.ntmps44
  go_wp2_with (go_at_call 98; refine h.mono ?_; rintro e w1 ⟨rfl, rfl⟩)
  go_ret
  exact ⟨rfl, rfl⟩
end Go.Proofs
end

section
/- Shades: a colour of the reference, and small functions of the program. -/
namespace Go.Proofs
open Go.RowKit
set_option maxHeartbeats 8000000
set_option maxRecDepth 1000000
theorem within_cases (n lo hi : Int) : 0 ≤ withinI n lo hi ∧ withinI n lo hi ≤ 3 ∧ (withinI n lo hi = 0 ↔ lo ≤ n ∧ n ≤ hi) := by
  unfold withinI
  split
  · rename_i h
    refine ⟨by omega, by omega, by omega⟩
  · refine ⟨by omega, by omega, by omega⟩
theorem wrap_small {n : Int} (h : -1000000000000000 ≤ n ∧ n ≤ 1000000000000000) : IntKind.i64.wrap n = n := by
  simp [IntKind.wrap, IntKind.bits, IntKind.signed]; omega
theorem wrap64_small {n : Int} (h : -1000000000000000 ≤ n ∧ n ≤ 1000000000000000) : wrap64 n = n := by unfold wrap64; omega
theorem below_drewN {B : Nat} {w w' : World} (h : Below B w w') (n : Nat) : Below B w (w'.drewN n) := ⟨h.os, h.tape, h.output, h.size, h.block⟩
def ColOk (c : Cel) (lo hi : Int) : Prop := (lo ≤ c.1 ∧ c.1 ≤ hi) ∧ (lo ≤ c.2.1 ∧ c.2.1 ≤ hi) ∧ (lo ≤ c.2.2 ∧ c.2.2 ≤ hi)
def sumE (c : Cel) (lo hi : Int) : Int := withinI c.1 lo hi + withinI c.2.1 lo hi + withinI c.2.2 lo hi
theorem sumE_ok (c : Cel) (lo hi : Int) : sumE c lo hi = 0 ↔ ColOk c lo hi := by
  unfold sumE ColOk
  have h1 := within_cases c.1 lo hi
  have h2 := within_cases c.2.1 lo hi
  have h3 := within_cases c.2.2 lo hi
  constructor
  · intro h
    exact ⟨h1.2.2.1 (by omega), h2.2.2.1 (by omega), h3.2.2.1 (by omega)⟩
  · rintro ⟨a, b, c⟩
    rw [h1.2.2.2 a, h2.2.2.2 b, h3.2.2.2 c]
    rfl
def colE (c : Cel) : Int := if sumE c 0 255 ≠ 0 then 3 else 0
theorem shWithin_ok (n lo hi : Int) (w : World) : Calls Tryz.prog 47 #[.int .i64 n, .int .i64 lo, .int .i64 hi] w fun e w' => e = .returned (.int .i64 (withinI n lo hi)) ∧ w' = w := by
  have hw : ∀ (b : Bool) (n : Int) (W : World), Calls Tryz.prog 40 #[.bool b, .int .i64 n] W fun e w' => e = .returned (.int .i64 (if b then n else 0)) ∧ w' = W := fun b n W => by
    cases b
    · go_enter Tryz.func40, Tryz.ntmps40
      go_wp2
      go_ret
      exact ⟨rfl, rfl⟩
    · go_enter Tryz.func40, Tryz.ntmps40
      go_wp2
      go_ret
      exact ⟨rfl, rfl⟩
  unfold withinI
  go_enter Tryz.func47, Tryz.ntmps47
  go_wp2_with (go_at_call 40; refine (hw _ _ _).mono ?_; rintro e w1 ⟨rfl, rfl⟩)
  all_goals go_ret
  all_goals (refine ⟨?_, rfl⟩; simp_all <;> omega)
end Go.Proofs
end

section
/- Shades: guides in the reference: ShortGuide, CheckGuide, Distance. -/
namespace Go.Proofs
open Go.RowKit
set_option maxHeartbeats 16000000
set_option maxRecDepth 1000000
def gdV (ws : Cel) (v : Value) : Value := .agg #[.int .i64 ws.1, .int .i64 ws.2.1, .int .i64 ws.2.2, v]
def BoolS (w : World) (e : Ending) (w' : World) : Prop := (∃ r : Bool, e = .returned (.bool r)) ∧ Below w.heap.size w w'
theorem boolS_mk {w w' : World} (r : Bool) (hb : Below w.heap.size w w') : BoolS w (.returned (.bool r)) w' := ⟨⟨r, rfl⟩, hb⟩
end Go.Proofs
end
