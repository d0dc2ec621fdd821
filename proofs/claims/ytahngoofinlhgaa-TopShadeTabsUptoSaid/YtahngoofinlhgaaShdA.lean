/- Shades: names, ranges and colours, in the reference and in the program. -/
import Derived.Test.YtahngoofinlhgaaShdP
import Derived.Test.YtahngoofinlhgaaWithin
import Derived.Deep.QuietTactic
import Derived.Deep.RegionWith
import Derived.Deep.RegionHeld3
namespace Go.Proofs
open Go.RowKit
set_option maxHeartbeats 8000000
set_option maxRecDepth 1000000
def letterB (c : Nat) : Bool := (decide (65 ≤ c) && decide (c ≤ 90)) || (decide (97 ≤ c) && decide (c ≤ 122))
def furtherB (c : Nat) : Bool := (decide (48 ≤ c) && decide (c ≤ 57)) || decide (c = 95)
def NameOk (s : ByteArray) : Prop := 1 ≤ s.size ∧ s.size ≤ 24 ∧ ∀ i (h : i < s.size), letterB (s[i]'h).toNat = true ∨ (i ≠ 0 ∧ furtherB (s[i]'h).toNat = true)
def PreName (s : ByteArray) (k : Nat) : Prop := ∀ i (h : i < s.size), i < k → letterB (s[i]'h).toNat = true ∨ (i ≠ 0 ∧ furtherB (s[i]'h).toNat = true)
theorem pre_step {s : ByteArray} {k : Nat} (hp : PreName s k) (hk : k < s.size) (h : letterB (s[k]'hk).toNat = true ∨ (k ≠ 0 ∧ furtherB (s[k]'hk).toNat = true)) : PreName s (k + 1) := fun i hi hik => by
  rcases Nat.lt_or_eq_of_le (Nat.le_of_lt_succ hik) with h1 | rfl
  · exact hp i hi h1
  · exact h
def NameE (s : ByteArray) (w : World) (e : Ending) (w' : World) : Prop := ∃ r : Bool, e = .returned (.bool r) ∧ (r = true → NameOk s) ∧ w' = w
theorem nameE_no (s : ByteArray) (w : World) : NameE s w (.returned (.bool false)) w := ⟨false, rfl, fun h => (by cases h), rfl⟩
theorem refName_ok (s : ByteArray) (w : World) : Calls Try.prog 24 #[.string s] w (NameE s w) := by
  go_enter Try.func24, Try.ntmps24
  go_wp2
  all_goals (try (go_ret; exact nameE_no s w))
  rename_i hs
  go_loopw [3] (fun i wr => ∃ k : Nat, k ≤ s.size ∧ i = .int .i64 k ∧ wr = w ∧ PreName s k) (fun i _ => s.size - (intOf i).toNat)
  case atStart => exact ⟨0, Nat.zero_le _, rfl, rfl, fun i h hi => absurd hi (Nat.not_lt_zero i)⟩
  case round =>
    obtain ⟨k, hk, rfl, rfl, hp⟩ := hrel
    rcases Nat.lt_or_eq_of_le hk with hkn | rfl
    · have hi0 : (0 : Int) ≤ k := by omega
      have hi1 : (k : Int) < s.size := by omega
      go_wp2
      all_goals (first
        | (go_ret; exact nameE_no s _)
        | (refine ⟨⟨k + 1, hkn, by simp_all, by first | trivial | rfl, pre_step hp hkn ?_⟩, by simp_all [intOf] <;> omega⟩
           simp only [letterB, furtherB, Bool.or_eq_true, Bool.and_eq_true, decide_eq_true_eq]
           simp_all
           try omega))
    · go_wp2
      go_ret
      exact ⟨true, rfl, fun _ => ⟨by omega, by omega, fun i h => hp i h h⟩, rfl⟩
theorem refRange9_ok (n lo hi : Int) (w : World) : Calls Try.prog 25 #[.int .i64 n, .int .i64 lo, .int .i64 hi] w fun e w' => e = .returned (.int .i64 (withinI n lo hi)) ∧ w' = w := by
  have h := checkRange_ok n lo hi w
  go_enter Try.func25, Try.ntmps25
  go_wp2_with (go_at_call 59; refine h.mono ?_; rintro e w1 ⟨rfl, rfl⟩)
  go_ret
  exact ⟨rfl, rfl⟩
end Go.Proofs
