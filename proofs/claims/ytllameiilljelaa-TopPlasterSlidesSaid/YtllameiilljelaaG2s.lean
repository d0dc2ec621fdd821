import Derived.Test.YtllameiilljelaaPeel
import Derived.Test.YtllameiilljelaaStepA
import Derived.Test.YtllameiilljelaaBoundG
import Derived.Test.YtllameiilljelaaBoundR
import Derived.Test.YtllameiilljelaaFewR
import Derived.Lib.Hide
import Derived.Test.YtllameiilljelaaRefE
import Derived.Test.YtllameiilljelaaRefD
section
/- A part of what ShrinkR had: filter_take1, shrN. -/
namespace Go.Proofs
open Go.RowKit
set_option maxHeartbeats 8000000
set_option maxRecDepth 1000000
/-- A set shrunk by some steps. -/
def shrN : Nat → List Cel → List Cel
  | 0, L => L
  | n + 1, L => shrN n (L.filter (insB L))
theorem filter_take1 {f : Cel → Bool} {l : List Cel} {k : Nat} {c : Cel} (hc : l[k]? = some c) : (l.take (k + 1)).filter f = (l.take k).filter f ++ (if f c then [c] else []) := by
  rw [List.take_add_one, hc, List.filter_append]
  congr 1
  cases h : f c <;> simp [h]
end Go.Proofs
end

section
/- Small functions of chapter 1's statements: OutCells, checkEach, the reference's Cut and Less. -/
namespace Go.Proofs
open Go.RowKit
set_option maxHeartbeats 8000000
set_option maxRecDepth 1000000
end Go.Proofs
end

section
/- A part of what OutI had: checkEachG, outI, outI_step. -/
namespace Go.Proofs
open Go.RowKit
set_option maxHeartbeats 8000000
set_option maxRecDepth 1000000
/-- The error of a list's cells, one by one. -/
def outI (l : List Cel) : Int := if l.any badC then 3 else 0
theorem outI_step {l : List Cel} {k : Nat} {c : Cel} (hc : l[k]? = some c) : outI (l.drop k) = if badC c then 3 else outI (l.drop (k + 1)) := by
  obtain ⟨h1, h2⟩ := List.getElem?_eq_some_iff.1 hc
  rw [List.drop_eq_getElem_cons h1, h2]
  unfold outI
  rw [List.any_cons]
  cases badC c <;> rfl
theorem checkEachG (l : List Cel) (v : Value) (w : World) (hl : Sl w v l) (hn : l.length ≤ maxLen) :
    Calls Try.prog 53 #[v] w fun e w' => e = .returned (.int .i64 (outI l)) ∧ Below w.heap.size w w' := by
  unfold maxLen at hn
  obtain ⟨A, cap, rfl⟩ := hl.form
  go_enter Try.func53, Try.ntmps53
  go_wp2
  go_loopw [8] (fun i wr => ∃ k : Nat, k ≤ l.length ∧ i = .int .i64 k ∧ Below w.heap.size w wr ∧ outI (l.drop k) = outI l) (fun i _ => l.length - (intOf i).toNat)
  case atStart => exact ⟨0, Nat.zero_le _, rfl, Below.refl _ _, rfl⟩
  case round =>
    obtain ⟨k, hk, rfl, hBel, hch⟩ := hrel
    rename World => w1
    rcases Nat.lt_or_eq_of_le hk with hkn | rfl
    · obtain ⟨b, o, x, y, z, rfl, -, hb, hc, r0, r1, r2⟩ := hl.cells hkn
      rw [outI_step hc] at hch
      have hv := fun W => checkCellG x y z W
      have hsz := hBel.size
      rw [← hBel.cell (p := ⟨b, _, none⟩) hb] at r0 r1 r2
      have hA : Below w.heap.size w (w1.alloc (.cells #[.int .i64 x, .int .i64 y, .int .i64 z] 26)) := hBel.alloc hsz _
      have hAs : w.heap.size ≤ (w1.alloc (.cells #[.int .i64 x, .int .i64 y, .int .i64 z] 26)).heap.size := by simp; omega
      cases hbad : badC (x, y, z) with
      | true =>
        rw [hbad] at hch hv
        simp only [if_true] at hch hv
        have Hch := Lib.hid hch
        clear hl hbad hch
        go_wp2_with (go_at_call 38; refine (hv _).mono ?_; rintro e w2 ⟨rfl, hB2⟩)
        go_ret
        exact ⟨by rw [← Hch.out]; rfl, hA.trans (hB2.mono hAs)⟩
      | false =>
        rw [hbad] at hch hv
        simp only [Bool.false_eq_true, if_false] at hch hv
        have Hch := Lib.hid hch
        clear hl hbad hch
        go_wp2_with (go_at_call 38; refine (hv _).mono ?_; rintro e w2 ⟨rfl, hB2⟩)
        exact ⟨⟨k + 1, hkn, rfl, hA.trans (hB2.mono hAs), Hch.out⟩, by simp [intOf]; omega⟩
    · have e : outI l = 0 := by rw [← hch]; simp [outI]
      have He := Lib.hid e
      clear hl hch e
      go_wp2
      go_ret
      exact ⟨by rw [He.out]; rfl, hBel⟩
end Go.Proofs
end

section
/- OutCells of the reference, checkEach. -/
namespace Go.Proofs
open Go.RowKit
set_option maxHeartbeats 8000000
set_option maxRecDepth 1000000

end Go.Proofs
end

section
/- SameCells of any two sets' slices. -/
namespace Go.Proofs
open Go.RowKit
set_option maxHeartbeats 8000000
set_option maxRecDepth 1000000
theorem sameSl (l m : List Cel) (v u : Value) (w : World) (hl : Sl w v l) (hm : Sl w u m) (hn : l.length ≤ 4096) :
    Calls Try.prog 20 #[v, u] w fun e w' => e = .returned (.bool (decide (l = m))) ∧ ∃ q, w' = w.drewN q := by
  by_cases hlen : l.length = m.length
  · cases l with
    | nil =>
      obtain rfl : m = [] := List.eq_nil_of_length_eq_zero hlen.symm
      obtain ⟨A, ca, rfl⟩ := hl.form
      obtain ⟨B, cb, rfl⟩ := hm.form
      clear hl hm hn hlen
      show Calls Try.prog 20 #[.slice A 0 ca, .slice B 0 cb] w fun e w' => e = .returned (.bool true) ∧ ∃ q, w' = w.drewN q
      go_enter Try.func20, Try.ntmps20
      go_wp2
      go_loopw [5] (fun i wr => i = .int .i64 0 ∧ wr = w) (fun _ _ => 0)
      case atStart => exact ⟨rfl, rfl⟩
      case round =>
        obtain ⟨rfl, rfl⟩ := hrel
        go_wp2
        go_ret
        exact ⟨rfl, 0, rfl⟩
    | cons h l =>
      rcases hl with ⟨_, h2⟩ | ⟨a, ca, rfl, ha⟩
      · cases h2
      rcases hm with ⟨_, rfl⟩ | ⟨b, cb, rfl, hb⟩
      · cases hlen
      obtain ⟨a1, a2, a3⟩ := ha (by simp)
      obtain ⟨b1, b2, b3⟩ := hb (by intro e; subst e; cases hlen)
      obtain ⟨ab, ao, sa⟩ := a
      obtain ⟨bb, bo, sb⟩ := b
      obtain rfl : sa = none := a1
      obtain rfl : sb = none := b1
      exact sameCells_ok (h :: l) m ab ao ca bb bo cb w a3 b3 hn
  · have hle : ¬ ((l.length : Int) = m.length) := by omega
    have hne : l ≠ m := fun e => hlen (by rw [e])
    rw [decide_eq_false hne]
    obtain ⟨A, ca, rfl⟩ := hl.form
    obtain ⟨B, cb, rfl⟩ := hm.form
    clear hl hm
    go_enter Try.func20, Try.ntmps20
    go_wp2
    all_goals go_ret
    all_goals (first | exact ⟨rfl, 0, rfl⟩ | (simp_all))
end Go.Proofs
end

section
/- Small functions of chapter 1's statements: first, when, ShortCells, cells. -/
namespace Go.Proofs
open Go.RowKit
set_option maxHeartbeats 8000000
set_option maxRecDepth 1000000
def shortB (n : Nat) (m : Int) : Bool := decide ((n : Int) ≤ m) || (decide (4096 < n) && decide (n ≤ 4098))
/-- The first number that is not 0. -/
def fstI : List Int → Int
  | [] => 0
  | x :: l => if x = 0 then fstI l else x
theorem fstI_step {l : List Int} {k : Nat} {x : Int} (hx : l[k]? = some x) : fstI (l.drop k) = if x = 0 then fstI (l.drop (k + 1)) else x := by
  obtain ⟨h1, h2⟩ := List.getElem?_eq_some_iff.1 hx
  rw [List.drop_eq_getElem_cons h1, h2]
  rfl
end Go.Proofs
end
