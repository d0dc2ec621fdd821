/- TopWaxSets: the gate of the law. -/
import Derived.Test.YtmgnidodkipohaaUnionG
import Derived.Test.YtmgnidodkipohaaCut
import Derived.Test.YtmgnidodkipohaaBound2
import Derived.Test.YtmgnidodkipohaaBlock
import Derived.Test.YtmgnidodkipohaaTurnG
import Derived.Test.YtmgnidodkipohaaSlOps
import Derived.Test.YtmgnidodkipohaaWaxFew
import Derived.Test.YtmgnidodkipohaaWaxRing
import Derived.Test.YtmgnidodkipohaaCheckV
namespace Go.Proofs
open Go.RowKit
set_option maxHeartbeats 16000000
set_option maxRecDepth 1000000
/-- What the law asks of its input before it looks at the sets. -/
def setsGate (a b out : List Cel) (n : Int) : Bool := waxB 20 [a, b, out] && (!decide (a.length + b.length = 0) && decide (withinI n 0 23 = 0))
theorem within_zero_or (n lo hi : Int) : withinI n lo hi = 0 ∨ withinI n lo hi = 3 := by
  unfold withinI
  split
  · exact .inr rfl
  · exact .inl rfl
theorem sets_out (a b : List Cel) (va vb : Value) (n : Int) (w : World) (ha : Sl w va a) (hb : Sl w vb b) (la : a.length ≤ 400000) (lb : b.length ≤ 400000)
    (hg : ∀ out, Up out → (∀ c, c ∈ out ↔ c ∈ a ∨ c ∈ b) → setsGate a b out n = false) :
    Calls Try.prog 3 #[va, vb, .int .i64 n] w fun e w' => e = .returned (.bool true) ∧ Below w.heap.size w w' := by
  have hu := refUnion_ok a b va vb w ha hb la lb
  have hwx : ∀ (v' : Value) (out : List Cel) (W : World), Below w.heap.size w W → Own W w.heap.size v' out → out.length ≤ 900000 → Calls Try.prog 7 #[.int .i64 20, .slice (some ⟨W.heap.size, 0, none⟩) 3 3] (W.alloc (.cells #[va, vb, v'] 22)) fun e w' => e = .returned (.bool (waxB 20 [a, b, out])) ∧ Below (W.heap.size + 1) (W.alloc (.cells #[va, vb, v'] 22)) w' := fun v' out W hB hown hlo => by
    have h := waxFew_ok 20 (by omega) [va, vb, v'] [a, b, out] W.heap.size 0 3 (W.alloc (.cells #[va, vb, v'] 22)) rfl (by simp) (by simp)
      (fun i v hi => by
        match i, hi with
        | 0, hi => obtain rfl : va = v := by simpa using hi
                   go_simp
        | 1, hi => obtain rfl : vb = v := by simpa using hi
                   go_simp
        | 2, hi => obtain rfl : v' = v := by simpa using hi
                   go_simp)
      (fun i v l hi hl => by
        have hA := (Below.refl W.heap.size W).alloc (Nat.le_refl _) (.cells #[va, vb, v'] 22)
        match i, hi, hl with
        | 0, hi, hl => obtain rfl : va = v := by simpa using hi
                       obtain rfl : a = l := by simpa using hl
                       exact ⟨(ha.below hB).below hA, by unfold maxLen; omega⟩
        | 1, hi, hl => obtain rfl : vb = v := by simpa using hi
                       obtain rfl : b = l := by simpa using hl
                       exact ⟨(hb.below hB).below hA, by unfold maxLen; omega⟩
        | 2, hi, hl => obtain rfl : v' = v := by simpa using hi
                       obtain rfl : out = l := by simpa using hl
                       exact ⟨hown.sl.below hA, by unfold maxLen; omega⟩)
    simpa using h
  obtain ⟨A, ca, rfl⟩ := ha.form
  obtain ⟨B, cb, rfl⟩ := hb.form
  clear ha hb
  have hab : IntKind.i64.wrap ((a.length : Int) + b.length) = ((a.length + b.length : Nat) : Int) := wrapL (by omega)
  go_enter Try.func3, Try.ntmps3
  go_wp2_with fail
  refine hu.mono ?_
  rintro e w2 ⟨v', out, rfl, hown, hup, hmem, hB2⟩
  have hlo : out.length ≤ 900000 := by
    have := nodup_len (up_nodup hup) (m := a ++ b) (fun x hx => List.mem_append.2 ((hmem x).1 hx))
    rw [List.length_append] at this
    omega
  have hgo := hg out hup hmem
  have hw2 := hwx v' out w2 hB2 hown hlo
  unfold setsGate at hgo
  generalize waxB 20 [a, b, out] = g1 at hgo hw2
  obtain ⟨C, cc, rfl⟩ := hown.sl.form
  clear hu hwx hg hown hup hmem hlo
  go_wp2_with fail
  refine hw2.mono ?_
  rintro e w3 ⟨rfl, hB3⟩
  have hB03 : Below w.heap.size w w3 := (hB2.alloc hB2.size _).trans (hB3.mono (by have := hB2.size; omega))
  clear hw2 hB2 hB3
  have hring := waxRing_ok w3
  cases g1 with
  | false =>
    clear hgo hab
    go_wp2_with (first
      | (go_at_call 10; refine hring.mono ?_; rintro e w4 ⟨rfl, hB4⟩))
    go_ret
    exact ⟨rfl, hB03.trans (hB4.mono hB03.size)⟩
  | true =>
    by_cases h0 : a.length + b.length = 0
    · have e0 : (a.length : Int) + b.length = 0 := by omega
      clear hgo h0
      go_wp2_with (first
        | (go_at_call 10; refine hring.mono ?_; rintro e w4 ⟨rfl, hB4⟩))
      go_ret
      exact ⟨rfl, hB03.trans (hB4.mono hB03.size)⟩
    · have e0 : ¬ ((a.length : Int) + b.length = 0) := by omega
      have en : withinI n 0 23 = 3 := by
        rcases within_zero_or n 0 23 with h | h
        · rw [decide_eq_false h0, decide_eq_true h] at hgo
          exact absurd hgo (by decide)
        · exact h
      have hcr := checkRange_ok n 0 23 w3
      rw [en] at hcr
      clear hgo h0 en
      go_wp2_with (first
        | (go_at_call 9; refine hcr.mono ?_; rintro e w' ⟨rfl, rfl⟩)
        | (go_at_call 10; refine hring.mono ?_; rintro e w4 ⟨rfl, hB4⟩))
      go_ret
      exact ⟨rfl, hB03.trans (hB4.mono hB03.size)⟩
end Go.Proofs
