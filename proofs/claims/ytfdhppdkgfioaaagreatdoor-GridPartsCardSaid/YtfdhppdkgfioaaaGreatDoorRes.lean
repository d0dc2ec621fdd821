import Derived.Test.YtfdhppdkgfioaaaGreatDoorPeel
import Derived.Test.YtfdhppdkgfioaaaGreatDoorCheckG
import Derived.Test.YtfdhppdkgfioaaaGreatDoorRefC
import Derived.Test.YtfdhppdkgfioaaaGreatDoorSl
import Derived.Lib.Hide
import Derived.Test.YtfdhppdkgfioaaaGreatDoorSlOps
section
/- grid.Shell of a set; and the law's 'near'. -/
namespace Go.Proofs
open Go.RowKit
set_option maxHeartbeats 8000000
set_option maxRecDepth 1000000
theorem shellG_ok (l : List Cel) (v : Value) (w : World) (hl : Sl w v l) (hc : chkI l = 0) :
    Calls Tryz.prog 8 #[v] w fun e w' => ∃ v', e = .returned (.tuple #[v', .int .i64 0]) ∧ Sl w' v' (l.filter fun c => !insB l c) ∧ Below w.heap.size w w' := by
  obtain ⟨hlen, hnear0, _⟩ := chkI_zero.1 hc
  have hnear : ∀ c ∈ l, Near c 2000 := fun c hcm => (hnear0 c hcm).mono (by omega)
  have h1 := gridCheckG l v w hl (by unfold maxLen; omega)
  rw [hc] at h1
  have hp := fun W (h : Below w.heap.size w W) => peel_ok l v W (hl.below h) (by omega) hnear
  clear hl hc hnear0 hnear hlen
  go_enter Tryz.func8, Tryz.ntmps8
  go_wp2_with fail
  refine h1.mono ?_
  rintro e w2 ⟨rfl, hX⟩
  have q := hp _ hX
  clear hp
  go_wp2_with fail
  refine q.mono ?_
  rintro e w3 ⟨v1, v2, rfl, ho1, ho2, hB⟩
  have hs := ho1.sl
  have hX3 := hX.trans (hB.mono hX.size)
  clear q ho1 ho2 hX hB
  go_wp2
  go_ret2
  exact ⟨_, rfl, hs, hX3⟩
instance nearDec (c : Cel) (b : Int) : Decidable (Near c b) := by unfold Near; infer_instance
def nearB (l : List Cel) : Bool := l.all fun c => decide (Near c 200)
theorem near200 (x y z : Int) : (withinI x (-200) 200 = 0 ∨ withinI x (-200) 200 = 3) ∧ ((withinI x (-200) 200 + withinI y (-200) 200 + withinI z (-200) 200 = 0) ↔ Near (x, y, z) 200) := by
  unfold withinI Near
  dsimp only
  constructor
  · split <;> simp
  · constructor
    · intro h
      repeat' split at h
      all_goals omega
    · intro h
      rw [if_neg (by omega), if_neg (by omega), if_neg (by omega)]
      rfl
end Go.Proofs
end

section
/- A set's slice, and calls that give one. -/
namespace Go.Proofs
open Go.RowKit
set_option maxHeartbeats 8000000
set_option maxRecDepth 1000000
/-- A set's slice: what it reads as, and a capacity that Go allows. -/
def St (W : World) (v : Value) (l : List Cel) : Prop := Sl W v l ∧ ∃ (A : Option Addr) (cap : Nat), v = .slice A l.length cap ∧ l.length ≤ cap ∧ cap ≤ 9223372036854775807
theorem St.below {w w' : World} {v : Value} {l : List Cel} (h : St w v l) (hb : Below w.heap.size w w') : St w' v l := ⟨h.1.below hb, h.2⟩
/-- A call gives a set and no error, and keeps what was there. -/
def Gives (W : World) (X : List Cel) (e : Ending) (W' : World) : Prop := ∃ (A : Option Addr) (cap : Nat), e = .returned (.tuple #[.slice A X.length cap, .int .i64 0]) ∧ St W' (.slice A X.length cap) X ∧ Below W.heap.size W W'
theorem St.of_own {w : World} {B : Nat} {v : Value} {l : List Cel} (h : Own w B v l) : St w v l := by
  refine ⟨h.sl, ?_⟩
  rcases h.2 with ⟨rfl, h2⟩ | ⟨g, cap, cur, rfl, _, _, h3, h4, _⟩
  · exact ⟨none, 0, by rw [h2], by omega, by omega⟩
  · unfold maxLen at h4
    exact ⟨_, cap, rfl, h3, by omega⟩
theorem St.of_filled {w : World} {B n : Nat} {l : List Cel} (h : Filled w B n 24 l) (hn : l.length = n) (hl : n ≤ 4096) : St w (.slice (some ⟨B, 0, none⟩) n n) l := by
  subst hn
  exact ⟨Sl.row h.row h.lt, _, _, rfl, Nat.le_refl _, by omega⟩
theorem gives_own {W W' : World} {X : List Cel} {v : Value} (h : Own W' W.heap.size v X) (hB : Below W.heap.size W W') : Gives W X (.returned (.tuple #[v, .int .i64 0])) W' := by
  have hs := St.of_own h
  obtain ⟨A, cap, rfl⟩ := h.sl.form
  exact ⟨A, cap, rfl, hs, hB⟩
end Go.Proofs
end

section
/- A part of what G3 had: AwakeAt. -/
namespace Go.Proofs
open Go.RowKit
set_option maxHeartbeats 16000000
set_option maxRecDepth 1000000
/-- What awake says, from any world behind the first one. -/
def AwakeAt (w : World) : Prop := ∀ W, Below w.heap.size w W → Calls Tryz.prog 5 #[] W fun e w' => e = .returned (.bool true) ∧ Below W.heap.size W w'
end Go.Proofs
end

section
/- A part of what OutI had: checkEachG, outI, outI_step. -/
namespace Go.Proofs
open Go.RowKit
set_option maxHeartbeats 8000000
set_option maxRecDepth 1000000
/-- The error of a list's cells, one by one. -/
def outI (l : List Cel) : Int := if l.any badC then 3 else 0
theorem outI_step {l : List Cel} {k : Nat} {c : Cel} (hc : l[k]? = some c) : outI (l.drop k) = if badC c then 3 else outI (l.drop (k + 1)) := by
  obtain ⟨h1, h2⟩ := List.getElem?_eq_some_iff.1 hc
  rw [List.drop_eq_getElem_cons h1, h2]
  unfold outI
  rw [List.any_cons]
  cases badC c <;> rfl
theorem checkEachG (l : List Cel) (v : Value) (w : World) (hl : Sl w v l) (hn : l.length ≤ maxLen) :
    Calls Tryz.prog 105 #[v] w fun e w' => e = .returned (.int .i64 (outI l)) ∧ Below w.heap.size w w' := by
  unfold maxLen at hn
  obtain ⟨A, cap, rfl⟩ := hl.form
  go_enter Tryz.func105, Tryz.ntmps105
  go_wp2
  go_loopw [8] (fun i wr => ∃ k : Nat, k ≤ l.length ∧ i = .int .i64 k ∧ Below w.heap.size w wr ∧ outI (l.drop k) = outI l) (fun i _ => l.length - (intOf i).toNat)
  case atStart => exact ⟨0, Nat.zero_le _, rfl, Below.refl _ _, rfl⟩
  case round =>
    obtain ⟨k, hk, rfl, hBel, hch⟩ := hrel
    rename World => w1
    rcases Nat.lt_or_eq_of_le hk with hkn | rfl
    · obtain ⟨b, o, x, y, z, rfl, -, hb, hc, r0, r1, r2⟩ := hl.cells hkn
      rw [outI_step hc] at hch
      have hv := fun W => checkCellG x y z W
      have hsz := hBel.size
      rw [← hBel.cell (p := ⟨b, _, none⟩) hb] at r0 r1 r2
      have hA : Below w.heap.size w (w1.alloc (.cells #[.int .i64 x, .int .i64 y, .int .i64 z] 24)) := hBel.alloc hsz _
      have hAs : w.heap.size ≤ (w1.alloc (.cells #[.int .i64 x, .int .i64 y, .int .i64 z] 24)).heap.size := by simp; omega
      cases hbad : badC (x, y, z) with
      | true =>
        rw [hbad] at hch hv
        simp only [if_true] at hch hv
        have Hch := Lib.hid hch
        clear hl hbad hch
        go_wp2_with (go_at_call 66; refine (hv _).mono ?_; rintro e w2 ⟨rfl, hB2⟩)
        go_ret
        exact ⟨by rw [← Hch.out]; rfl, hA.trans (hB2.mono hAs)⟩
      | false =>
        rw [hbad] at hch hv
        simp only [Bool.false_eq_true, if_false] at hch hv
        have Hch := Lib.hid hch
        clear hl hbad hch
        go_wp2_with (go_at_call 66; refine (hv _).mono ?_; rintro e w2 ⟨rfl, hB2⟩)
        exact ⟨⟨k + 1, hkn, rfl, hA.trans (hB2.mono hAs), Hch.out⟩, by simp [intOf]; omega⟩
    · have e : outI l = 0 := by rw [← hch]; simp [outI]
      have He := Lib.hid e
      clear hl hch e
      go_wp2
      go_ret
      exact ⟨by rw [He.out]; rfl, hBel⟩
end Go.Proofs
end

section
/- OutCells of the reference, checkEach. -/
namespace Go.Proofs
open Go.RowKit
set_option maxHeartbeats 8000000
set_option maxRecDepth 1000000

end Go.Proofs
end

section
/- Small functions of chapter 1's statements: first, when, ShortCells, cells. -/
namespace Go.Proofs
open Go.RowKit
set_option maxHeartbeats 8000000
set_option maxRecDepth 1000000
theorem when_ok (b : Bool) (n : Int) (w : World) :
    Calls Tryz.prog 17 #[.bool b, .int .i64 n] w fun e w' => e = .returned (.int .i64 (if b then n else 0)) ∧ w' = w := by
  cases b <;>
  · go_enter Tryz.func17, Tryz.ntmps17
    go_wp2
    go_ret
    exact ⟨rfl, rfl⟩
def shortB (n : Nat) (m : Int) : Bool := decide ((n : Int) ≤ m) || (decide (4096 < n) && decide (n ≤ 4098))
theorem short_ok (A : Option Addr) (n cap : Nat) (m : Int) (w : World) :
    Calls Tryz.prog 6 #[.slice A n cap, .int .i64 m] w fun e w' => e = .returned (.bool (shortB n m)) ∧ w' = w := by
  by_cases h1 : (n : Int) ≤ m
  · have e : shortB n m = true := by unfold shortB; rw [decide_eq_true h1]; rfl
    rw [e]
    clear e
    go_enter Tryz.func6, Tryz.ntmps6
    go_wp2
    go_ret
    exact ⟨rfl, rfl⟩
  · by_cases h2 : (4096 : Int) < n
    · by_cases h3 : (n : Int) ≤ 4098
      · have e : shortB n m = true := by unfold shortB; rw [decide_eq_false h1, decide_eq_true (by omega : 4096 < n), decide_eq_true (by omega : n ≤ 4098)]; rfl
        rw [e]
        clear e
        go_enter Tryz.func6, Tryz.ntmps6
        go_wp2
        go_ret
        exact ⟨rfl, rfl⟩
      · have e : shortB n m = false := by unfold shortB; rw [decide_eq_false h1, decide_eq_true (by omega : 4096 < n), decide_eq_false (by omega : ¬ n ≤ 4098)]; rfl
        rw [e]
        clear e
        go_enter Tryz.func6, Tryz.ntmps6
        go_wp2
        go_ret
        exact ⟨rfl, rfl⟩
    · have e : shortB n m = false := by unfold shortB; rw [decide_eq_false h1, decide_eq_false (by omega : ¬ 4096 < n)]; rfl
      rw [e]
      clear e
      go_enter Tryz.func6, Tryz.ntmps6
      go_wp2
      go_ret
      exact ⟨rfl, rfl⟩
/-- The first number that is not 0. -/
def fstI : List Int → Int
  | [] => 0
  | x :: l => if x = 0 then fstI l else x
theorem fstI_step {l : List Int} {k : Nat} {x : Int} (hx : l[k]? = some x) : fstI (l.drop k) = if x = 0 then fstI (l.drop (k + 1)) else x := by
  obtain ⟨h1, h2⟩ := List.getElem?_eq_some_iff.1 hx
  rw [List.drop_eq_getElem_cons h1, h2]
  rfl
theorem firstL_ok (l : List Int) (blk cap : Nat) (w : World) (hn : l.length ≤ 1000) (hc : ∀ (k : Nat) (x : Int), l[k]? = some x → w.cell? ⟨blk, k, none⟩ = some (.int .i64 x)) :
    Calls Tryz.prog 15 #[.slice (some ⟨blk, 0, none⟩) l.length cap] w fun e w' => e = .returned (.int .i64 (fstI l)) ∧ w' = w := by
  go_enter Tryz.func15, Tryz.ntmps15
  go_wp2
  go_loopw [3] (fun i wr => ∃ k : Nat, k ≤ l.length ∧ i = .int .i64 k ∧ wr = w ∧ fstI (l.drop k) = fstI l) (fun i _ => l.length - (intOf i).toNat)
  case atStart => exact ⟨0, Nat.zero_le _, rfl, rfl, rfl⟩
  case round =>
    obtain ⟨k, hk, rfl, rfl, hch⟩ := hrel
    rcases Nat.lt_or_eq_of_le hk with hkn | rfl
    · obtain ⟨x, hx⟩ : ∃ x, l[k]? = some x := ⟨_, List.getElem?_eq_getElem hkn⟩
      have r0 := hc k x hx
      rw [fstI_step hx] at hch
      by_cases h0 : x = 0
      · rw [if_pos h0] at hch
        have Hch := Lib.hid hch
        subst h0
        clear hc hch hx
        go_wp2
        exact ⟨⟨k + 1, hkn, (by first | rfl | trivial), (by first | rfl | trivial), Hch.out⟩, by simp [intOf]; omega⟩
      · rw [if_neg h0] at hch
        have Hch := Lib.hid hch
        have hne : (x != 0) = true := by simpa using h0
        clear hc hch hx h0
        go_wp2
        go_ret
        exact ⟨by rw [← Hch.out]; rfl, rfl⟩
    · have e : fstI l = 0 := by rw [← hch]; simp [fstI]
      have He := Lib.hid e
      clear hc hch e
      go_wp2
      go_ret
      exact ⟨by rw [He.out]; rfl, rfl⟩
/-- cells, where an error is wanted. -/
theorem cells_bad (A B : Option Addr) (ca cb m : Nat) (e : Int) (he : e ≠ 0) (w : World) :
    Calls Tryz.prog 12 #[.slice A 0 ca, .int .i64 e, .int .i64 e, .slice B m cb] w fun e w' => e = .returned (.bool true) ∧ w' = w := by
  have hne : (e != 0) = true := by simpa using he
  clear he
  go_enter Tryz.func12, Tryz.ntmps12
  go_wp2
  go_ret
  exact ⟨rfl, rfl⟩
/-- cells, where a set is wanted. -/
theorem cells_same (l : List Cel) (v u : Value) (w : World) (hl : Sl w v l) (hm : Sl w u l) (hn : l.length ≤ 4096) :
    Calls Tryz.prog 12 #[v, .int .i64 0, .int .i64 0, u] w fun e w' => e = .returned (.bool true) ∧ Below w.heap.size w w' := by
  have hs := sameSl l l v u w hl hm hn
  rw [decide_eq_true rfl] at hs
  go_enter Tryz.func12, Tryz.ntmps12
  go_wp2_with (go_at_call 47; refine hs.mono ?_; rintro e w' ⟨rfl, q, rfl⟩)
  go_ret
  exact ⟨rfl, ⟨rfl, rfl, rfl, Nat.le_refl _, fun _ _ => rfl⟩⟩
end Go.Proofs
end

section
/- Small functions of chapter 1's statements, in the forms that the walks ask. -/
namespace Go.Proofs
open Go.RowKit
set_option maxHeartbeats 16000000
set_option maxRecDepth 1000000

theorem fst_or (a b : Int) : fstI [a, b] = orI a b 0 := by
  unfold orI
  simp only [fstI]
  by_cases h1 : a = 0 <;> by_cases h2 : b = 0 <;> simp [h1, h2]
theorem firstL2 (a b : Int) (blk cap : Nat) (w : World) (h0 : w.cell? ⟨blk, 0, none⟩ = some (.int .i64 a)) (h1 : w.cell? ⟨blk, 1, none⟩ = some (.int .i64 b)) :
    Calls Tryz.prog 15 #[.slice (some ⟨blk, 0, none⟩) 2 cap] w fun e w' => e = .returned (.int .i64 (fstI [a, b])) ∧ w' = w :=
  firstL_ok [a, b] blk cap w (by simp) fun k x hk => by
    match k, hk with
    | 0, hk => simp at hk; subst hk; exact h0
    | 1, hk => simp at hk; subst hk; exact h1
    | k + 2, hk => simp at hk
theorem short_true {n : Nat} {m : Int} (h : shortB n m = true) (A : Option Addr) (cap : Nat) (w : World) : Calls Tryz.prog 6 #[.slice A n cap, .int .i64 m] w fun e w' => e = .returned (.bool true) ∧ w' = w := by
  have := short_ok A n cap m w
  rwa [h] at this
theorem short_false {n : Nat} {m : Int} (h : shortB n m = false) (A : Option Addr) (cap : Nat) (w : World) : Calls Tryz.prog 6 #[.slice A n cap, .int .i64 m] w fun e w' => e = .returned (.bool false) ∧ w' = w := by
  have := short_ok A n cap m w
  rwa [h] at this
theorem short_len {n : Nat} {m : Int} (h : shortB n m = true) (hm : m ≤ 4096) : n ≤ 4098 ∧ (n ≤ 4096 → (n : Int) ≤ m) := by
  unfold shortB at h
  simp only [Bool.or_eq_true, Bool.and_eq_true, decide_eq_true_eq] at h
  omega
end Go.Proofs
end

section
/- A result beside what is wanted. -/
namespace Go.Proofs
open Go.RowKit
set_option maxHeartbeats 8000000
set_option maxRecDepth 1000000
/-- A result of the program, where r is wanted as its error, or l as its set. -/
def Res (w : World) (A : Option Addr) (n cap : Nat) (E r : Int) (l : List Cel) : Prop := (r ≠ 0 ∧ E = r ∧ n = 0) ∨ (r = 0 ∧ E = 0 ∧ n = l.length ∧ l.length ≤ 4096 ∧ Sl w (.slice A n cap) l)
theorem Res.below {w w' : World} {A : Option Addr} {n cap : Nat} {E r : Int} {l : List Cel} (h : Res w A n cap E r l) (hb : Below w.heap.size w w') : Res w' A n cap E r l := by
  rcases h with h | ⟨h1, h2, h3, h4, h5⟩
  · exact .inl h
  · exact .inr ⟨h1, h2, h3, h4, h5.below hb⟩
theorem cells_res {w : World} {A : Option Addr} {n cap : Nat} {E r : Int} {l : List Cel} {u : Value} {m : List Cel} (h : Res w A n cap E r l) (hu : Sl w u m) (hm : r = 0 → m = l) :
    Calls Tryz.prog 12 #[.slice A n cap, .int .i64 E, .int .i64 r, u] w fun e w' => e = .returned (.bool true) ∧ Below w.heap.size w w' := by
  rcases h with ⟨h1, rfl, rfl⟩ | ⟨h1, rfl, rfl, h4, h5⟩
  · obtain ⟨B, cb, rfl⟩ := hu.form
    refine (cells_bad A B cap cb _ _ h1 w).mono ?_
    rintro e w' ⟨rfl, rfl⟩
    exact ⟨rfl, Below.refl _ _⟩
  · obtain rfl := hm h1
    subst h1
    exact cells_same m _ _ w h5 hu h4
end Go.Proofs
end
