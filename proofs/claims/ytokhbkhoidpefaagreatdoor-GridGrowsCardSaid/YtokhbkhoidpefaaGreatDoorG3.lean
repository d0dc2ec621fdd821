import Derived.Test.YtokhbkhoidpefaaGreatDoorCheckG
import Derived.Test.YtokhbkhoidpefaaGreatDoorRefD
import Derived.Lib.Hide
section
/- SameCells of any two sets' slices. -/
namespace Go.Proofs
open Go.RowKit
set_option maxHeartbeats 8000000
set_option maxRecDepth 1000000
theorem sameSl (l m : List Cel) (v u : Value) (w : World) (hl : Sl w v l) (hm : Sl w u m) (hn : l.length ≤ 4096) :
    Calls Tryz.prog 42 #[v, u] w fun e w' => e = .returned (.bool (decide (l = m))) ∧ ∃ q, w' = w.drewN q := by
  by_cases hlen : l.length = m.length
  · cases l with
    | nil =>
      obtain rfl : m = [] := List.eq_nil_of_length_eq_zero hlen.symm
      obtain ⟨A, ca, rfl⟩ := hl.form
      obtain ⟨B, cb, rfl⟩ := hm.form
      clear hl hm hn hlen
      show Calls Tryz.prog 42 #[.slice A 0 ca, .slice B 0 cb] w fun e w' => e = .returned (.bool true) ∧ ∃ q, w' = w.drewN q
      go_enter Tryz.func42, Tryz.ntmps42
      go_wp2
      go_loopw [5] (fun i wr => i = .int .i64 0 ∧ wr = w) (fun _ _ => 0)
      case atStart => exact ⟨rfl, rfl⟩
      case round =>
        obtain ⟨rfl, rfl⟩ := hrel
        go_wp2
        go_ret
        exact ⟨rfl, 0, rfl⟩
    | cons h l =>
      rcases hl with ⟨_, h2⟩ | ⟨a, ca, rfl, ha⟩
      · cases h2
      rcases hm with ⟨_, rfl⟩ | ⟨b, cb, rfl, hb⟩
      · cases hlen
      obtain ⟨a1, a2, a3⟩ := ha (by simp)
      obtain ⟨b1, b2, b3⟩ := hb (by intro e; subst e; cases hlen)
      obtain ⟨ab, ao, sa⟩ := a
      obtain ⟨bb, bo, sb⟩ := b
      obtain rfl : sa = none := a1
      obtain rfl : sb = none := b1
      exact sameCells_ok (h :: l) m ab ao ca bb bo cb w a3 b3 hn
  · have hle : ¬ ((l.length : Int) = m.length) := by omega
    have hne : l ≠ m := fun e => hlen (by rw [e])
    rw [decide_eq_false hne]
    obtain ⟨A, ca, rfl⟩ := hl.form
    obtain ⟨B, cb, rfl⟩ := hm.form
    clear hl hm
    go_enter Tryz.func42, Tryz.ntmps42
    go_wp2
    all_goals go_ret
    all_goals (first | exact ⟨rfl, 0, rfl⟩ | (simp_all))
end Go.Proofs
end

section
/- OutCells of the reference, checkEach. -/
namespace Go.Proofs
open Go.RowKit
set_option maxHeartbeats 8000000
set_option maxRecDepth 1000000
/-- The error of a list's cells, one by one. -/
def outI (l : List Cel) : Int := if l.any badC then 3 else 0
theorem outI_step {l : List Cel} {k : Nat} {c : Cel} (hc : l[k]? = some c) : outI (l.drop k) = if badC c then 3 else outI (l.drop (k + 1)) := by
  obtain ⟨h1, h2⟩ := List.getElem?_eq_some_iff.1 hc
  rw [List.drop_eq_getElem_cons h1, h2]
  unfold outI
  rw [List.any_cons]
  cases badC c <;> rfl
theorem outCells_ok (l : List Cel) (v : Value) (w : World) (hl : Sl w v l) (hn : l.length ≤ maxLen) :
    Calls Tryz.prog 19 #[v] w fun e w' => e = .returned (.int .i64 (outI l)) ∧ Below w.heap.size w w' := by
  unfold maxLen at hn
  obtain ⟨A, cap, rfl⟩ := hl.form
  go_enter Tryz.func19, Tryz.ntmps19
  go_wp2
  go_loopw [3] (fun i wr => ∃ k : Nat, k ≤ l.length ∧ i = .int .i64 k ∧ Below w.heap.size w wr ∧ outI (l.drop k) = outI l) (fun i _ => l.length - (intOf i).toNat)
  case atStart => exact ⟨0, Nat.zero_le _, rfl, Below.refl _ _, rfl⟩
  case round =>
    obtain ⟨k, hk, rfl, hBel, hch⟩ := hrel
    rename World => w1
    rcases Nat.lt_or_eq_of_le hk with hkn | rfl
    · obtain ⟨b, o, x, y, z, rfl, -, hb, hc, r0, r1, r2⟩ := hl.cells hkn
      rw [outI_step hc] at hch
      have hv := fun W => refCheckCellG x y z W
      have hsz := hBel.size
      rw [← hBel.cell (p := ⟨b, _, none⟩) hb] at r0 r1 r2
      cases hbad : badC (x, y, z) with
      | true =>
        rw [hbad] at hch hv
        simp only [if_true] at hch hv
        have Hch := Lib.hid hch
        clear hl hbad hch
        go_wp2_with (go_at_call 17; refine (hv _).mono ?_; rintro e w2 ⟨rfl, hB2⟩)
        go_ret
        exact ⟨by rw [← Hch.out]; rfl, hBel.trans (hB2.mono hsz)⟩
      | false =>
        rw [hbad] at hch hv
        simp only [Bool.false_eq_true, if_false] at hch hv
        have Hch := Lib.hid hch
        clear hl hbad hch
        go_wp2_with (go_at_call 17; refine (hv _).mono ?_; rintro e w2 ⟨rfl, hB2⟩)
        exact ⟨⟨k + 1, hkn, rfl, hBel.trans (hB2.mono hsz), Hch.out⟩, by simp [intOf]; omega⟩
    · have e : outI l = 0 := by rw [← hch]; simp [outI]
      have He := Lib.hid e
      clear hl hch e
      go_wp2
      go_ret
      exact ⟨by rw [He.out]; rfl, hBel⟩
theorem checkEachG (l : List Cel) (v : Value) (w : World) (hl : Sl w v l) (hn : l.length ≤ maxLen) :
    Calls Tryz.prog 93 #[v] w fun e w' => e = .returned (.int .i64 (outI l)) ∧ Below w.heap.size w w' := by
  unfold maxLen at hn
  obtain ⟨A, cap, rfl⟩ := hl.form
  go_enter Tryz.func93, Tryz.ntmps93
  go_wp2
  go_loopw [8] (fun i wr => ∃ k : Nat, k ≤ l.length ∧ i = .int .i64 k ∧ Below w.heap.size w wr ∧ outI (l.drop k) = outI l) (fun i _ => l.length - (intOf i).toNat)
  case atStart => exact ⟨0, Nat.zero_le _, rfl, Below.refl _ _, rfl⟩
  case round =>
    obtain ⟨k, hk, rfl, hBel, hch⟩ := hrel
    rename World => w1
    rcases Nat.lt_or_eq_of_le hk with hkn | rfl
    · obtain ⟨b, o, x, y, z, rfl, -, hb, hc, r0, r1, r2⟩ := hl.cells hkn
      rw [outI_step hc] at hch
      have hv := fun W => checkCellG x y z W
      have hsz := hBel.size
      rw [← hBel.cell (p := ⟨b, _, none⟩) hb] at r0 r1 r2
      have hA : Below w.heap.size w (w1.alloc (.cells #[.int .i64 x, .int .i64 y, .int .i64 z] 24)) := hBel.alloc hsz _
      have hAs : w.heap.size ≤ (w1.alloc (.cells #[.int .i64 x, .int .i64 y, .int .i64 z] 24)).heap.size := by simp; omega
      cases hbad : badC (x, y, z) with
      | true =>
        rw [hbad] at hch hv
        simp only [if_true] at hch hv
        have Hch := Lib.hid hch
        clear hl hbad hch
        go_wp2_with (go_at_call 69; refine (hv _).mono ?_; rintro e w2 ⟨rfl, hB2⟩)
        go_ret
        exact ⟨by rw [← Hch.out]; rfl, hA.trans (hB2.mono hAs)⟩
      | false =>
        rw [hbad] at hch hv
        simp only [Bool.false_eq_true, if_false] at hch hv
        have Hch := Lib.hid hch
        clear hl hbad hch
        go_wp2_with (go_at_call 69; refine (hv _).mono ?_; rintro e w2 ⟨rfl, hB2⟩)
        exact ⟨⟨k + 1, hkn, rfl, hA.trans (hB2.mono hAs), Hch.out⟩, by simp [intOf]; omega⟩
    · have e : outI l = 0 := by rw [← hch]; simp [outI]
      have He := Lib.hid e
      clear hl hch e
      go_wp2
      go_ret
      exact ⟨by rw [He.out]; rfl, hBel⟩
end Go.Proofs
end

section
/- Small functions of chapter 1's statements: first, when, ShortCells, cells. -/
namespace Go.Proofs
open Go.RowKit
set_option maxHeartbeats 8000000
set_option maxRecDepth 1000000
theorem when_ok (b : Bool) (n : Int) (w : World) :
    Calls Tryz.prog 31 #[.bool b, .int .i64 n] w fun e w' => e = .returned (.int .i64 (if b then n else 0)) ∧ w' = w := by
  cases b <;>
  · go_enter Tryz.func31, Tryz.ntmps31
    go_wp2
    go_ret
    exact ⟨rfl, rfl⟩
def shortB (n : Nat) (m : Int) : Bool := decide ((n : Int) ≤ m) || (decide (4096 < n) && decide (n ≤ 4098))
theorem short_ok (A : Option Addr) (n cap : Nat) (m : Int) (w : World) :
    Calls Tryz.prog 8 #[.slice A n cap, .int .i64 m] w fun e w' => e = .returned (.bool (shortB n m)) ∧ w' = w := by
  by_cases h1 : (n : Int) ≤ m
  · have e : shortB n m = true := by unfold shortB; rw [decide_eq_true h1]; rfl
    rw [e]
    clear e
    go_enter Tryz.func8, Tryz.ntmps8
    go_wp2
    go_ret
    exact ⟨rfl, rfl⟩
  · by_cases h2 : (4096 : Int) < n
    · by_cases h3 : (n : Int) ≤ 4098
      · have e : shortB n m = true := by unfold shortB; rw [decide_eq_false h1, decide_eq_true (by omega : 4096 < n), decide_eq_true (by omega : n ≤ 4098)]; rfl
        rw [e]
        clear e
        go_enter Tryz.func8, Tryz.ntmps8
        go_wp2
        go_ret
        exact ⟨rfl, rfl⟩
      · have e : shortB n m = false := by unfold shortB; rw [decide_eq_false h1, decide_eq_true (by omega : 4096 < n), decide_eq_false (by omega : ¬ n ≤ 4098)]; rfl
        rw [e]
        clear e
        go_enter Tryz.func8, Tryz.ntmps8
        go_wp2
        go_ret
        exact ⟨rfl, rfl⟩
    · have e : shortB n m = false := by unfold shortB; rw [decide_eq_false h1, decide_eq_false (by omega : ¬ 4096 < n)]; rfl
      rw [e]
      clear e
      go_enter Tryz.func8, Tryz.ntmps8
      go_wp2
      go_ret
      exact ⟨rfl, rfl⟩
/-- The first number that is not 0. -/
def fstI : List Int → Int
  | [] => 0
  | x :: l => if x = 0 then fstI l else x
theorem fstI_step {l : List Int} {k : Nat} {x : Int} (hx : l[k]? = some x) : fstI (l.drop k) = if x = 0 then fstI (l.drop (k + 1)) else x := by
  obtain ⟨h1, h2⟩ := List.getElem?_eq_some_iff.1 hx
  rw [List.drop_eq_getElem_cons h1, h2]
  rfl
theorem firstL_ok (l : List Int) (blk cap : Nat) (w : World) (hn : l.length ≤ 1000) (hc : ∀ (k : Nat) (x : Int), l[k]? = some x → w.cell? ⟨blk, k, none⟩ = some (.int .i64 x)) :
    Calls Tryz.prog 14 #[.slice (some ⟨blk, 0, none⟩) l.length cap] w fun e w' => e = .returned (.int .i64 (fstI l)) ∧ w' = w := by
  go_enter Tryz.func14, Tryz.ntmps14
  go_wp2
  go_loopw [3] (fun i wr => ∃ k : Nat, k ≤ l.length ∧ i = .int .i64 k ∧ wr = w ∧ fstI (l.drop k) = fstI l) (fun i _ => l.length - (intOf i).toNat)
  case atStart => exact ⟨0, Nat.zero_le _, rfl, rfl, rfl⟩
  case round =>
    obtain ⟨k, hk, rfl, rfl, hch⟩ := hrel
    rcases Nat.lt_or_eq_of_le hk with hkn | rfl
    · obtain ⟨x, hx⟩ : ∃ x, l[k]? = some x := ⟨_, List.getElem?_eq_getElem hkn⟩
      have r0 := hc k x hx
      rw [fstI_step hx] at hch
      by_cases h0 : x = 0
      · rw [if_pos h0] at hch
        have Hch := Lib.hid hch
        subst h0
        clear hc hch hx
        go_wp2
        exact ⟨⟨k + 1, hkn, (by first | rfl | trivial), (by first | rfl | trivial), Hch.out⟩, by simp [intOf]; omega⟩
      · rw [if_neg h0] at hch
        have Hch := Lib.hid hch
        have hne : (x != 0) = true := by simpa using h0
        clear hc hch hx h0
        go_wp2
        go_ret
        exact ⟨by rw [← Hch.out]; rfl, rfl⟩
    · have e : fstI l = 0 := by rw [← hch]; simp [fstI]
      have He := Lib.hid e
      clear hc hch e
      go_wp2
      go_ret
      exact ⟨by rw [He.out]; rfl, rfl⟩
/-- cells, where an error is wanted. -/
theorem cells_bad (A B : Option Addr) (ca cb m : Nat) (e : Int) (he : e ≠ 0) (w : World) :
    Calls Tryz.prog 22 #[.slice A 0 ca, .int .i64 e, .int .i64 e, .slice B m cb] w fun e w' => e = .returned (.bool true) ∧ w' = w := by
  have hne : (e != 0) = true := by simpa using he
  clear he
  go_enter Tryz.func22, Tryz.ntmps22
  go_wp2
  go_ret
  exact ⟨rfl, rfl⟩
/-- cells, where a set is wanted. -/
theorem cells_same (l : List Cel) (v u : Value) (w : World) (hl : Sl w v l) (hm : Sl w u l) (hn : l.length ≤ 4096) :
    Calls Tryz.prog 22 #[v, .int .i64 0, .int .i64 0, u] w fun e w' => e = .returned (.bool true) ∧ Below w.heap.size w w' := by
  have hs := sameSl l l v u w hl hm hn
  rw [decide_eq_true rfl] at hs
  go_enter Tryz.func22, Tryz.ntmps22
  go_wp2_with (go_at_call 42; refine hs.mono ?_; rintro e w' ⟨rfl, q, rfl⟩)
  go_ret
  exact ⟨rfl, ⟨rfl, rfl, rfl, Nat.le_refl _, fun _ _ => rfl⟩⟩
end Go.Proofs
end

section
/- A set's slice, and calls that give one. -/
namespace Go.Proofs
open Go.RowKit
set_option maxHeartbeats 8000000
set_option maxRecDepth 1000000
/-- A set's slice: what it reads as, and a capacity that Go allows. -/
def St (W : World) (v : Value) (l : List Cel) : Prop := Sl W v l ∧ ∃ (A : Option Addr) (cap : Nat), v = .slice A l.length cap ∧ l.length ≤ cap ∧ cap ≤ 9223372036854775807
theorem St.below {w w' : World} {v : Value} {l : List Cel} (h : St w v l) (hb : Below w.heap.size w w') : St w' v l := ⟨h.1.below hb, h.2⟩
/-- A call gives a set and no error, and keeps what was there. -/
def Gives (W : World) (X : List Cel) (e : Ending) (W' : World) : Prop := ∃ (A : Option Addr) (cap : Nat), e = .returned (.tuple #[.slice A X.length cap, .int .i64 0]) ∧ St W' (.slice A X.length cap) X ∧ Below W.heap.size W W'
theorem St.of_own {w : World} {B : Nat} {v : Value} {l : List Cel} (h : Own w B v l) : St w v l := by
  refine ⟨h.sl, ?_⟩
  rcases h.2 with ⟨rfl, h2⟩ | ⟨g, cap, cur, rfl, _, _, h3, h4, _⟩
  · exact ⟨none, 0, by rw [h2], by omega, by omega⟩
  · unfold maxLen at h4
    exact ⟨_, cap, rfl, h3, by omega⟩
theorem St.of_filled {w : World} {B n : Nat} {l : List Cel} (h : Filled w B n 24 l) (hn : l.length = n) (hl : n ≤ 4096) : St w (.slice (some ⟨B, 0, none⟩) n n) l := by
  subst hn
  exact ⟨Sl.row h.row h.lt, _, _, rfl, Nat.le_refl _, by omega⟩
theorem gives_own {W W' : World} {X : List Cel} {v : Value} (h : Own W' W.heap.size v X) (hB : Below W.heap.size W W') : Gives W X (.returned (.tuple #[v, .int .i64 0])) W' := by
  have hs := St.of_own h
  obtain ⟨A, cap, rfl⟩ := h.sl.form
  exact ⟨A, cap, rfl, hs, hB⟩
end Go.Proofs
end

section
/- Small functions of chapter 1's statements, in the forms that the walks ask. -/
namespace Go.Proofs
open Go.RowKit
set_option maxHeartbeats 16000000
set_option maxRecDepth 1000000
theorem fst_or (a b : Int) : fstI [a, b] = orI a b 0 := by
  unfold orI
  simp only [fstI]
  by_cases h1 : a = 0 <;> by_cases h2 : b = 0 <;> simp [h1, h2]
theorem firstL2 (a b : Int) (blk cap : Nat) (w : World) (h0 : w.cell? ⟨blk, 0, none⟩ = some (.int .i64 a)) (h1 : w.cell? ⟨blk, 1, none⟩ = some (.int .i64 b)) :
    Calls Tryz.prog 14 #[.slice (some ⟨blk, 0, none⟩) 2 cap] w fun e w' => e = .returned (.int .i64 (fstI [a, b])) ∧ w' = w :=
  firstL_ok [a, b] blk cap w (by simp) fun k x hk => by
    match k, hk with
    | 0, hk => simp at hk; subst hk; exact h0
    | 1, hk => simp at hk; subst hk; exact h1
    | k + 2, hk => simp at hk
/-- What awake says, from any world behind the first one. -/
def AwakeAt (w : World) : Prop := ∀ W, Below w.heap.size w W → Calls Tryz.prog 7 #[] W fun e w' => e = .returned (.bool true) ∧ Below W.heap.size W w'
theorem short_true {n : Nat} {m : Int} (h : shortB n m = true) (A : Option Addr) (cap : Nat) (w : World) : Calls Tryz.prog 8 #[.slice A n cap, .int .i64 m] w fun e w' => e = .returned (.bool true) ∧ w' = w := by
  have := short_ok A n cap m w
  rwa [h] at this
theorem short_false {n : Nat} {m : Int} (h : shortB n m = false) (A : Option Addr) (cap : Nat) (w : World) : Calls Tryz.prog 8 #[.slice A n cap, .int .i64 m] w fun e w' => e = .returned (.bool false) ∧ w' = w := by
  have := short_ok A n cap m w
  rwa [h] at this
theorem short_len {n : Nat} {m : Int} (h : shortB n m = true) (hm : m ≤ 4096) : n ≤ 4098 ∧ (n ≤ 4096 → (n : Int) ≤ m) := by
  unfold shortB at h
  simp only [Bool.or_eq_true, Bool.and_eq_true, decide_eq_true_eq] at h
  omega
end Go.Proofs
end
