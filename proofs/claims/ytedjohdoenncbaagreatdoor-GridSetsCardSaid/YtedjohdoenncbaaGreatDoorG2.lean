/- Small functions of chapter 1's statements: first, when, ShortCells, cells; grid.Sorted. -/
import Derived.Test.YtedjohdoenncbaaGreatDoorG1
namespace Go.Proofs
open Go.RowKit
set_option maxHeartbeats 8000000
set_option maxRecDepth 1000000
theorem when_ok (b : Bool) (n : Int) (w : World) :
    Calls Tryz.prog 18 #[.bool b, .int .i64 n] w fun e w' => e = .returned (.int .i64 (if b then n else 0)) ∧ w' = w := by
  cases b <;>
  · go_enter Tryz.func18, Tryz.ntmps18
    go_wp2
    go_ret
    exact ⟨rfl, rfl⟩
def shortB (n : Nat) (m : Int) : Bool := decide ((n : Int) ≤ m) || (decide (4096 < n) && decide (n ≤ 4098))
theorem short_ok (A : Option Addr) (n cap : Nat) (m : Int) (w : World) :
    Calls Tryz.prog 10 #[.slice A n cap, .int .i64 m] w fun e w' => e = .returned (.bool (shortB n m)) ∧ w' = w := by
  by_cases h1 : (n : Int) ≤ m
  · have e : shortB n m = true := by unfold shortB; rw [decide_eq_true h1]; rfl
    rw [e]
    clear e
    go_enter Tryz.func10, Tryz.ntmps10
    go_wp2
    go_ret
    exact ⟨rfl, rfl⟩
  · by_cases h2 : (4096 : Int) < n
    · by_cases h3 : (n : Int) ≤ 4098
      · have e : shortB n m = true := by unfold shortB; rw [decide_eq_false h1, decide_eq_true (by omega : 4096 < n), decide_eq_true (by omega : n ≤ 4098)]; rfl
        rw [e]
        clear e
        go_enter Tryz.func10, Tryz.ntmps10
        go_wp2
        go_ret
        exact ⟨rfl, rfl⟩
      · have e : shortB n m = false := by unfold shortB; rw [decide_eq_false h1, decide_eq_true (by omega : 4096 < n), decide_eq_false (by omega : ¬ n ≤ 4098)]; rfl
        rw [e]
        clear e
        go_enter Tryz.func10, Tryz.ntmps10
        go_wp2
        go_ret
        exact ⟨rfl, rfl⟩
    · have e : shortB n m = false := by unfold shortB; rw [decide_eq_false h1, decide_eq_false (by omega : ¬ 4096 < n)]; rfl
      rw [e]
      clear e
      go_enter Tryz.func10, Tryz.ntmps10
      go_wp2
      go_ret
      exact ⟨rfl, rfl⟩
/-- The first number that is not 0. -/
def fstI : List Int → Int
  | [] => 0
  | x :: l => if x = 0 then fstI l else x
theorem fstI_step {l : List Int} {k : Nat} {x : Int} (hx : l[k]? = some x) : fstI (l.drop k) = if x = 0 then fstI (l.drop (k + 1)) else x := by
  obtain ⟨h1, h2⟩ := List.getElem?_eq_some_iff.1 hx
  rw [List.drop_eq_getElem_cons h1, h2]
  rfl
theorem firstL_ok (l : List Int) (blk cap : Nat) (w : World) (hn : l.length ≤ 1000) (hc : ∀ (k : Nat) (x : Int), l[k]? = some x → w.cell? ⟨blk, k, none⟩ = some (.int .i64 x)) :
    Calls Tryz.prog 12 #[.slice (some ⟨blk, 0, none⟩) l.length cap] w fun e w' => e = .returned (.int .i64 (fstI l)) ∧ w' = w := by
  go_enter Tryz.func12, Tryz.ntmps12
  go_wp2
  go_loopw [3] (fun i wr => ∃ k : Nat, k ≤ l.length ∧ i = .int .i64 k ∧ wr = w ∧ fstI (l.drop k) = fstI l) (fun i _ => l.length - (intOf i).toNat)
  case atStart => exact ⟨0, Nat.zero_le _, rfl, rfl, rfl⟩
  case round =>
    obtain ⟨k, hk, rfl, rfl, hch⟩ := hrel
    rcases Nat.lt_or_eq_of_le hk with hkn | rfl
    · obtain ⟨x, hx⟩ : ∃ x, l[k]? = some x := ⟨_, List.getElem?_eq_getElem hkn⟩
      have r0 := hc k x hx
      rw [fstI_step hx] at hch
      by_cases h0 : x = 0
      · rw [if_pos h0] at hch
        have Hch := Lib.hid hch
        subst h0
        clear hc hch hx
        go_wp2
        exact ⟨⟨k + 1, hkn, (by first | rfl | trivial), (by first | rfl | trivial), Hch.out⟩, by simp [intOf]; omega⟩
      · rw [if_neg h0] at hch
        have Hch := Lib.hid hch
        have hne : (x != 0) = true := by simpa using h0
        clear hc hch hx h0
        go_wp2
        go_ret
        exact ⟨by rw [← Hch.out]; rfl, rfl⟩
    · have e : fstI l = 0 := by rw [← hch]; simp [fstI]
      have He := Lib.hid e
      clear hc hch e
      go_wp2
      go_ret
      exact ⟨by rw [He.out]; rfl, rfl⟩
/-- cells, where an error is wanted. -/
theorem cells_bad (A B : Option Addr) (ca cb m : Nat) (e : Int) (he : e ≠ 0) (w : World) :
    Calls Tryz.prog 20 #[.slice A 0 ca, .int .i64 e, .int .i64 e, .slice B m cb] w fun e w' => e = .returned (.bool true) ∧ w' = w := by
  have hne : (e != 0) = true := by simpa using he
  clear he
  go_enter Tryz.func20, Tryz.ntmps20
  go_wp2
  go_ret
  exact ⟨rfl, rfl⟩
/-- cells, where a set is wanted. -/
theorem cells_same (l : List Cel) (v u : Value) (w : World) (hl : Sl w v l) (hm : Sl w u l) (hn : l.length ≤ 4096) :
    Calls Tryz.prog 20 #[v, .int .i64 0, .int .i64 0, u] w fun e w' => e = .returned (.bool true) ∧ Below w.heap.size w w' := by
  have hs := sameSl l l v u w hl hm hn
  rw [decide_eq_true rfl] at hs
  go_enter Tryz.func20, Tryz.ntmps20
  go_wp2_with (go_at_call 59; refine hs.mono ?_; rintro e w' ⟨rfl, q, rfl⟩)
  go_ret
  exact ⟨rfl, ⟨rfl, rfl, rfl, Nat.le_refl _, fun _ _ => rfl⟩⟩
theorem gSorted_many (A : Option Addr) (n cap : Nat) (w : World) (hn : 4096 < n) :
    Calls Tryz.prog 14 #[.slice A n cap] w fun e w' => e = .returned (.tuple #[.slice none 0 0, .int .i64 5]) ∧ w' = w := by
  have hn' : (4096 : Int) < n := by omega
  clear hn
  go_enter Tryz.func14, Tryz.ntmps14
  go_wp2
  go_ret2
  exact ⟨rfl, rfl⟩
theorem gSorted_bad (l : List Cel) (v : Value) (w : World) (hl : Sl w v l) (hn : l.length ≤ 4096) (ho : outI l = 3) :
    Calls Tryz.prog 14 #[v] w fun e w' => e = .returned (.tuple #[.slice none 0 0, .int .i64 3]) ∧ Below w.heap.size w w' := by
  have hc := checkEachG l v w hl (by unfold maxLen; omega)
  rw [ho] at hc
  obtain ⟨A, cap, rfl⟩ := hl.form
  have hn' : ¬ (4096 : Int) < l.length := by omega
  clear hl ho hn
  go_enter Tryz.func14, Tryz.ntmps14
  go_wp2_with (go_at_call 79; refine hc.mono ?_; rintro e w' ⟨rfl, hB⟩)
  go_ret2
  exact ⟨rfl, hB⟩
theorem gSorted_ok (l : List Cel) (v : Value) (w : World) (hl : Sl w v l) (hn : l.length ≤ 4096) (ho : outI l = 0) :
    Calls Tryz.prog 14 #[v] w fun e w' => ∃ B out, e = .returned (.tuple #[.slice (some ⟨B, 0, none⟩) out.length out.length, .int .i64 0]) ∧ w.heap.size ≤ B ∧ Filled w' B out.length 38 out ∧ Up out ∧ (∀ c, c ∈ out ↔ c ∈ l) ∧ Below w.heap.size w w' := by
  have hc := checkEachG l v w hl (by unfold maxLen; omega)
  rw [ho] at hc
  have hs := fun W (h : Below w.heap.size w W) => sortedG l v W (hl.below h) (by omega)
  obtain ⟨A, cap, rfl⟩ := hl.form
  have hn' : ¬ (4096 : Int) < l.length := by omega
  clear hl ho hn
  go_enter Tryz.func14, Tryz.ntmps14
  go_wp2_with fail
  refine hc.mono ?_
  rintro e w2 ⟨rfl, hB2⟩
  have hs2 := hs w2 hB2
  clear hc hs
  go_wp2_with (go_at_call 80; refine hs2.mono ?_; rintro e w3 ⟨B, out, rfl, hBB, hF, hup, hmem, hB3⟩)
  go_ret2
  exact ⟨B, out, rfl, Nat.le_trans hB2.size hBB, hF, hup, hmem, hB2.trans (hB3.mono hB2.size)⟩
end Go.Proofs
