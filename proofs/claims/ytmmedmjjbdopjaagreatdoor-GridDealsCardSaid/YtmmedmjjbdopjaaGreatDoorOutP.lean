import Derived.Test.YtmmedmjjbdopjaaGreatDoorCells
import Derived.Laws.OwnMore
import Derived.Lib.Hide
import Derived.Test.YtmmedmjjbdopjaaGreatDoorRefD
section
/- Slices of cells: what a slice value reads as, and rows of a call's own. -/
namespace Go.Proofs
open Go.RowKit
set_option maxRecDepth 1000000
/-- A slice value that reads as a list of cells: nil, empty or not. -/
def Sl (w : World) (v : Value) (l : List Cel) : Prop :=
  (v = .slice none 0 0 ∧ l = []) ∨ ∃ (a : Addr) (cap : Nat), v = .slice (some a) l.length cap ∧ (l ≠ [] → a.spot = none ∧ a.block < w.heap.size ∧ RowAt w a.block a.off l)
theorem RowAt.below {w w' : World} {b o : Nat} {l : List Cel} (h : RowAt w b o l) {B : Nat} (hb : Below B w w') (hB : b < B) : RowAt w' b o l := fun i c hi => by
  obtain ⟨r0, r1, r2⟩ := h i c hi
  exact ⟨(hb.cell (p := ⟨b, _, none⟩) hB).trans r0, (hb.cell (p := ⟨b, _, none⟩) hB).trans r1, (hb.cell (p := ⟨b, _, none⟩) hB).trans r2⟩
theorem Sl.below {w w' : World} {v : Value} {l : List Cel} (h : Sl w v l) (hb : Below w.heap.size w w') : Sl w' v l := by
  rcases h with h | ⟨a, cap, rfl, h⟩
  · exact .inl h
  · refine .inr ⟨a, cap, rfl, fun hl => ?_⟩
    obtain ⟨h1, h2, h3⟩ := h hl
    exact ⟨h1, Nat.lt_of_lt_of_le h2 hb.size, h3.below hb h2⟩
theorem Sl.row {w : World} {b o cap : Nat} {l : List Cel} (h : RowAt w b o l) (hb : b < w.heap.size) : Sl w (.slice (some ⟨b, o, none⟩) l.length cap) l := .inr ⟨_, cap, rfl, fun _ => ⟨rfl, hb, h⟩⟩
/-- The cell at a place. -/
theorem Sl.at_ {w : World} {a : Addr} {l : List Cel} (h : l ≠ [] → a.spot = none ∧ a.block < w.heap.size ∧ RowAt w a.block a.off l) {k : Nat} (hk : k < l.length) :
    ∃ b o x y z, a = ⟨b, o, none⟩ ∧ b < w.heap.size ∧ l[k]? = some (x, y, z) ∧ w.cell? ⟨b, o + k * 3, none⟩ = some (.int .i64 x) ∧ w.cell? ⟨b, o + k * 3 + 1, none⟩ = some (.int .i64 y) ∧ w.cell? ⟨b, o + k * 3 + 2, none⟩ = some (.int .i64 z) := by
  obtain ⟨b, o, s⟩ := a
  obtain ⟨h1, h2, h3⟩ := h (fun e => by subst e; exact absurd hk (Nat.not_lt_zero k))
  obtain rfl : s = none := h1
  obtain ⟨r0, r1, r2⟩ := h3 k _ (List.getElem?_eq_getElem hk)
  exact ⟨b, o, _, _, _, rfl, h2, List.getElem?_eq_getElem hk, r0, r1, r2⟩
theorem Sl.form {w : World} {v : Value} {l : List Cel} (h : Sl w v l) : ∃ (A : Option Addr) (cap : Nat), v = .slice A l.length cap := by
  rcases h with ⟨rfl, rfl⟩ | ⟨a, cap, rfl, _⟩
  · exact ⟨none, 0, rfl⟩
  · exact ⟨some a, cap, rfl⟩
theorem Sl.cells {w : World} {A : Option Addr} {n cap : Nat} {l : List Cel} (h : Sl w (.slice A n cap) l) {k : Nat} (hk : k < l.length) :
    ∃ b o x y z, A = some ⟨b, o, none⟩ ∧ n = l.length ∧ b < w.heap.size ∧ l[k]? = some (x, y, z) ∧ w.cell? ⟨b, o + k * 3, none⟩ = some (.int .i64 x) ∧ w.cell? ⟨b, o + k * 3 + 1, none⟩ = some (.int .i64 y) ∧ w.cell? ⟨b, o + k * 3 + 2, none⟩ = some (.int .i64 z) := by
  rcases h with ⟨_, rfl⟩ | ⟨a, cap', e, h⟩
  · exact absurd hk (Nat.not_lt_zero k)
  · injection e with e1 e2 _
    obtain ⟨b, o, x, y, z, rfl, r⟩ := Sl.at_ h hk
    exact ⟨b, o, x, y, z, e1, e2, r⟩
/-- A row of a call's own. -/
def Own (w : World) (B : Nat) (v : Value) (l : List Cel) : Prop := w.ownsRow B 54 3 v l.length (flatC l)
theorem Own.nil (w : World) (B : Nat) : Own w B (.slice none 0 0) [] := World.ownsRow_nil w B _ _
theorem Own.form {w : World} {B : Nat} {v : Value} {l : List Cel} (h : Own w B v l) : (v = .slice none 0 0 ∧ l = []) ∨ ∃ g cap, v = .slice (some ⟨g, 0, none⟩) l.length cap ∧ B ≤ g ∧ g < w.heap.size ∧ RowAt w g 0 l := by
  have h' := h
  rcases h.2 with ⟨h1, h2⟩ | ⟨g, cap, cur, rfl, hB, hg, _⟩
  · exact .inl ⟨h1, List.eq_nil_of_length_eq_zero h2⟩
  · exact .inr ⟨g, cap, rfl, hB, (Array.getElem?_eq_some_iff.1 hg).1, owns_row h'⟩
theorem Own.sl {w : World} {B : Nat} {v : Value} {l : List Cel} (h : Own w B v l) : Sl w v l := by
  rcases h.form with h | ⟨g, cap, rfl, _, hg, hr⟩
  · exact .inl h
  · exact .row hr hg
theorem flatC_cons (c : Cel) (l : List Cel) : flatC (c :: l) = .int .i64 c.1 :: .int .i64 c.2.1 :: .int .i64 c.2.2 :: flatC l := by simp [flatC, encC]
theorem flatC_set (x y z : Int) : ∀ (l : List Cel) (k : Nat), k < l.length → (((flatC l).set (k * 3) (.int .i64 x)).set (k * 3 + 1) (.int .i64 y)).set (k * 3 + 2) (.int .i64 z) = flatC (l.set k (x, y, z))
  | [], k, h => absurd h (Nat.not_lt_zero k)
  | c :: l, 0, _ => by simp [flatC_cons]
  | c :: l, k + 1, h => by
    have ih := flatC_set x y z l k (Nat.lt_of_succ_lt_succ h)
    rw [List.set_cons_succ, flatC_cons, flatC_cons, ← ih]
    rw [show (k + 1) * 3 = k * 3 + 1 + 1 + 1 by omega, show k * 3 + 1 + 1 + 1 + 1 = (k * 3 + 1) + 1 + 1 + 1 by omega, show k * 3 + 1 + 1 + 1 + 2 = (k * 3 + 2) + 1 + 1 + 1 by omega]
    simp only [List.set_cons_succ]
theorem Own.store {w : World} {B g n cap : Nat} {l : List Cel} (h : Own w B (.slice (some ⟨g, 0, none⟩) n cap) l) (hn : n = l.length) {k : Nat} (hk : k < n) (x y z : Int) :
    Own (((w.setCell ⟨g, k * 3, none⟩ (.int .i64 x)).setCell ⟨g, k * 3 + 1, none⟩ (.int .i64 y)).setCell ⟨g, k * 3 + 2, none⟩ (.int .i64 z)) B (.slice (some ⟨g, 0, none⟩) n cap) (l.set k (x, y, z)) := by
  subst hn
  have h1 := ((h.stored (k * 3) (.int .i64 x)).1.stored (k * 3 + 1) (.int .i64 y)).1.stored (k * 3 + 2) (.int .i64 z)
  rw [flatC_set x y z l k hk] at h1
  unfold Own
  rw [List.length_set]
  exact h1.1
theorem Own.alloc {w : World} {B : Nat} {v : Value} {l : List Cel} (h : Own w B v l) (o : Obj) : Own (w.alloc o) B v l := World.ownsRow.alloc h o
theorem Own.keep {w w' : World} {B : Nat} {v : Value} {l : List Cel} (h : Own w B v l) (hb : Below w.heap.size w w') : Own w' B v l := by
  refine ⟨h.1, ?_⟩
  rcases h.2 with h1 | ⟨g, cap, cur, rfl, hB, hg, r⟩
  · exact .inl h1
  · refine .inr ⟨g, cap, cur, rfl, hB, ?_, r⟩
    rw [hb.block g (Array.getElem?_eq_some_iff.1 hg).1]
    exact hg
theorem flatC_append (l m : List Cel) : flatC (l ++ m) = flatC l ++ flatC m := by simp [flatC]
theorem Own.len {w : World} {B : Nat} {v : Value} {l : List Cel} (h : Own w B v l) : l.length ≤ maxLen := by
  rcases h.2 with ⟨_, h2⟩ | ⟨_, _, _, _, _, _, h1, h2, _⟩
  · omega
  · omega
theorem Own.lower {w : World} {B B' : Nat} {v : Value} {l : List Cel} (h : Own w B' v l) (hle : B ≤ B') : Own w B v l := ⟨h.1, h.2.imp id fun ⟨g, cap, cur, h1, h2, r⟩ => ⟨g, cap, cur, h1, Nat.le_trans hle h2, r⟩⟩
end Go.Proofs
end

section
/- The reference's CheckCells, for any list. -/
namespace Go.Proofs
open Go.RowKit
set_option maxHeartbeats 4000000
set_option maxRecDepth 1000000
def badC (c : Cel) : Bool := farB c.1 1000 || (farB c.2.1 1000 || farB c.2.2 1000)
/-- The first error from a place on, behind a cell. -/
def chkFrom : Option Cel → List Cel → Int
  | _, [] => 0
  | p, c :: l => if badC c then 3 else if p.any (fun q => !ltC q c) then 11 else chkFrom (some c) l
def chkI (l : List Cel) : Int := if 4096 < l.length then 5 else chkFrom none l
def prevC (l : List Cel) (k : Nat) : Option Cel := if k = 0 then none else l[k-1]?
theorem chk_step {l : List Cel} {k : Nat} {c : Cel} (hc : l[k]? = some c) : chkFrom (prevC l k) (l.drop k) = if badC c then 3 else if (prevC l k).any (fun q => !ltC q c) then 11 else chkFrom (prevC l (k+1)) (l.drop (k+1)) := by
  obtain ⟨h1, h2⟩ := List.getElem?_eq_some_iff.1 hc
  rw [List.drop_eq_getElem_cons h1, h2]
  have e : prevC l (k+1) = some c := by unfold prevC; rw [if_neg (Nat.succ_ne_zero k), Nat.add_sub_cancel, hc]
  rw [e]
  rfl
theorem before_lt (a b : Cel) : decide (cmp3 a.1 a.2.1 a.2.2 b.1 b.2.1 b.2.2 < 0) = ltC a b := by
  cases h : ltC a b with
  | true => exact decide_eq_true ((cmp3_lt a b).2 h)
  | false => exact decide_eq_false fun e => by rw [(cmp3_lt a b).1 e] at h; cases h
end Go.Proofs
end

section
/- grid.CheckCells, for any list. -/
namespace Go.Proofs
open Go.RowKit
set_option maxHeartbeats 4000000
set_option maxRecDepth 1000000
theorem vecI_bad (c : Cel) : vecI c 1000 = if badC c then 3 else 0 := by
  unfold vecI orI withinI badC farB
  by_cases h1 : c.1 < -1000 ∨ 1000 < c.1 <;> by_cases h2 : c.2.1 < -1000 ∨ 1000 < c.2.1 <;> by_cases h3 : c.2.2 < -1000 ∨ 1000 < c.2.2 <;> simp [h1, h2, h3]
theorem checkCellG (x y z : Int) (w : World) :
    Calls Tryz.prog 62 #[.agg #[.int .i64 x, .int .i64 y, .int .i64 z]] w fun e w' => e = .returned (.int .i64 (if badC (x, y, z) then 3 else 0)) ∧ Below w.heap.size w w' := by
  have h := checkCell_ok x y z w
  rwa [vecI_bad] at h
theorem cmp3_neg (a b : Cel) : (cmp3 a.1 a.2.1 a.2.2 b.1 b.2.1 b.2.2 < 0) ↔ ltC a b = true := cmp3_lt a b
theorem gridCheckG (l : List Cel) (v : Value) (w : World) (hl : Sl w v l) (hn : l.length ≤ maxLen) :
    Calls Tryz.prog 56 #[v] w fun e w' => e = .returned (.int .i64 (chkI l)) ∧ Below w.heap.size w w' := by
  unfold maxLen at hn
  obtain ⟨A, cap, rfl⟩ := hl.form
  by_cases h4 : 4096 < l.length
  · have hn' : (4096 : Int) < l.length := by omega
    have e : chkI l = 5 := by unfold chkI; rw [if_pos h4]
    rw [e]
    clear hl h4 e
    go_enter Tryz.func56, Tryz.ntmps56
    go_wp2
    go_ret
    exact ⟨rfl, Below.refl _ _⟩
  · have hn' : ¬ ((4096 : Int) < l.length) := by omega
    have e : chkI l = chkFrom (prevC l 0) (l.drop 0) := by unfold chkI; rw [if_neg h4]; rfl
    rw [e]
    clear e
    go_enter Tryz.func56, Tryz.ntmps56
    go_wp2
    go_loopw [11] (fun i wr => ∃ k : Nat, k ≤ l.length ∧ i = .int .i64 k ∧ Below w.heap.size w wr ∧ chkFrom (prevC l k) (l.drop k) = chkFrom (prevC l 0) (l.drop 0)) (fun i _ => l.length - (intOf i).toNat)
    case atStart => exact ⟨0, Nat.zero_le _, rfl, Below.refl _ _, rfl⟩
    case round =>
      obtain ⟨k, hk, rfl, hBel, hch⟩ := hrel
      rcases Nat.lt_or_eq_of_le hk with hkn | rfl
      · obtain ⟨b, o, x, y, z, rfl, -, hb, hc, r0, r1, r2⟩ := hl.cells hkn
        rw [chk_step hc] at hch
        have hv := fun W => checkCellG x y z W
        have hsz := hBel.size
        rw [← hBel.cell (p := ⟨b, _, none⟩) hb] at r0 r1 r2
        cases hbad : badC (x, y, z) with
        | true =>
          rw [hbad] at hch hv
          simp only [if_true] at hch hv
          have Hch := Lib.hid hch
          clear hl hbad hch
          go_wp2_with (go_at_call 62; refine (hv _).mono ?_; rintro e w2 ⟨rfl, hB2⟩)
          go_ret
          exact ⟨by rw [← Hch.out]; rfl, (hBel.alloc hsz _).trans (hB2.mono (by simp; omega))⟩
        | false =>
          rw [hbad] at hch hv
          simp only [Bool.false_eq_true, if_false] at hch hv
          rcases Nat.eq_zero_or_pos k with rfl | hpos
          · have hp : prevC l 0 = none := rfl
            rw [hp] at hch
            simp only [Option.any_none, Bool.false_eq_true, if_false] at hch
            simp only [Nat.zero_mul, Nat.add_zero] at r0 r1 r2
            have Hch := Lib.hid hch
            clear hl hbad hch hp
            go_wp2_with (go_at_call 62; refine (hv _).mono ?_; rintro e w2 ⟨rfl, hB2⟩)
            have hB3 : Below w.heap.size w w2 := (hBel.alloc hsz _).trans (hB2.mono (by simp; omega))
            clear hB2 hv hBel
            go_quiet (fail)
            go_wp2
            exact ⟨⟨1, hkn, rfl, ⟨hB3.os, hB3.tape, hB3.output, hB3.size, hB3.block⟩, Hch.out⟩, by simp [intOf]; omega⟩
          · obtain ⟨b', o', px, py, pz, e1, -, -, hp, q0, q1, q2⟩ := hl.cells (k := k - 1) (by omega)
            obtain ⟨rfl, rfl⟩ : b' = b ∧ o' = o := by injection e1 with e1; injection e1 with e1 e2; exact ⟨e1.symm, e2.symm⟩
            have hpv : prevC l k = some (px, py, pz) := by unfold prevC; rw [if_neg (by omega)]; exact hp
            rw [hpv] at hch
            simp only [Option.any_some] at hch
            have hcm := fun W => compareCells_ok px py pz x y z W
            have hlt3 := cmp3_neg (px, py, pz) (x, y, z)
            dsimp only at hlt3
            generalize cmp3 px py pz x y z = r at hlt3 hcm
            have hkk : (k - 1) * 3 + 3 = k * 3 := by omega
            clear hl e1 hpv hbad
            go_wp2_with (go_at_call 62; refine (hv _).mono ?_; rintro e w2 ⟨rfl, hB2⟩)
            have hB3 : Below w.heap.size w w2 := (hBel.alloc hsz _).trans (hB2.mono (by simp; omega))
            have c0 : w2.cell? ⟨wr.heap.size, 0, none⟩ = some (.int .i64 x) := by rw [hB2.cell (p := ⟨wr.heap.size, 0, none⟩) (by simp)]; go_simp
            have c1 : w2.cell? ⟨wr.heap.size, 1, none⟩ = some (.int .i64 y) := by rw [hB2.cell (p := ⟨wr.heap.size, 1, none⟩) (by simp)]; go_simp
            have c2 : w2.cell? ⟨wr.heap.size, 2, none⟩ = some (.int .i64 z) := by rw [hB2.cell (p := ⟨wr.heap.size, 2, none⟩) (by simp)]; go_simp
            rw [← hB3.cell (p := ⟨b', _, none⟩) hb] at q0 q1 q2
            clear hB2 hv hBel r0 r1 r2
            have hw : IntKind.i64.wrap ((k : Int) - 1) = (k : Int) - 1 := wrapS (by omega)
            have hi0 : 1 ≤ (k : Int) := by omega
            have hi1 : (k : Int) - 1 < l.length := by omega
            have hit : ((k : Int) - 1).toNat = k - 1 := by omega
            have hd : decide ((0 : Int) < k) = true := by simp; omega
            go_still_tail 9, (by kernel_rfl)
            change wpList _ _ _ _ _ w2.drew
            have hB4 : Below w.heap.size w w2.drew := ⟨hB3.os, hB3.tape, hB3.output, hB3.size, hB3.block⟩
            clear q0 q1 q2 c0 c1 c2 hw hi0 hi1 hit hd hB3
            generalize w2.drew = w3 at hB4 ⊢
            cases hlt : ltC (px, py, pz) (x, y, z) with
            | true =>
              simp only [hlt, Bool.not_true, Bool.false_eq_true, if_false] at hch
              have hr : ¬ (0 ≤ r) := by have := hlt3.2 hlt; omega
              have Hch := Lib.hid hch
              clear hlt hch hlt3
              go_wp2_with (go_at_call 105; refine (hcm _).mono ?_; rintro e w4 ⟨rfl, hB5⟩)
              exact ⟨⟨k + 1, hkn, rfl, hB4.trans (hB5.mono hB4.size), Hch.out⟩, by simp [intOf]; omega⟩
            | false =>
              simp only [hlt, Bool.not_false, if_true] at hch
              have hr : 0 ≤ r := by
                rcases Int.lt_or_le r 0 with h | h
                · rw [hlt3.1 h] at hlt; cases hlt
                · exact h
              have Hch := Lib.hid hch
              clear hlt hch hlt3
              go_wp2_with (go_at_call 105; refine (hcm _).mono ?_; rintro e w4 ⟨rfl, hB5⟩)
              go_ret
              exact ⟨by rw [← Hch.out]; rfl, hB4.trans (hB5.mono hB4.size)⟩
      · rw [List.drop_length] at hch
        have hch' : (0 : Int) = chkFrom (prevC l 0) (l.drop 0) := by rw [← hch]; cases prevC l l.length <;> rfl
        have Hch := Lib.hid hch'
        clear hl hch hch'
        go_wp2
        go_ret
        exact ⟨by rw [← Hch.out]; rfl, hBel⟩
end Go.Proofs
end

section
/- A part of what OutI had: checkEachG, outI, outI_step. -/
namespace Go.Proofs
open Go.RowKit
set_option maxHeartbeats 8000000
set_option maxRecDepth 1000000
/-- The error of a list's cells, one by one. -/
def outI (l : List Cel) : Int := if l.any badC then 3 else 0
theorem outI_step {l : List Cel} {k : Nat} {c : Cel} (hc : l[k]? = some c) : outI (l.drop k) = if badC c then 3 else outI (l.drop (k + 1)) := by
  obtain ⟨h1, h2⟩ := List.getElem?_eq_some_iff.1 hc
  rw [List.drop_eq_getElem_cons h1, h2]
  unfold outI
  rw [List.any_cons]
  cases badC c <;> rfl
theorem checkEachG (l : List Cel) (v : Value) (w : World) (hl : Sl w v l) (hn : l.length ≤ maxLen) :
    Calls Tryz.prog 75 #[v] w fun e w' => e = .returned (.int .i64 (outI l)) ∧ Below w.heap.size w w' := by
  unfold maxLen at hn
  obtain ⟨A, cap, rfl⟩ := hl.form
  go_enter Tryz.func75, Tryz.ntmps75
  go_wp2
  go_loopw [8] (fun i wr => ∃ k : Nat, k ≤ l.length ∧ i = .int .i64 k ∧ Below w.heap.size w wr ∧ outI (l.drop k) = outI l) (fun i _ => l.length - (intOf i).toNat)
  case atStart => exact ⟨0, Nat.zero_le _, rfl, Below.refl _ _, rfl⟩
  case round =>
    obtain ⟨k, hk, rfl, hBel, hch⟩ := hrel
    rename World => w1
    rcases Nat.lt_or_eq_of_le hk with hkn | rfl
    · obtain ⟨b, o, x, y, z, rfl, -, hb, hc, r0, r1, r2⟩ := hl.cells hkn
      rw [outI_step hc] at hch
      have hv := fun W => checkCellG x y z W
      have hsz := hBel.size
      rw [← hBel.cell (p := ⟨b, _, none⟩) hb] at r0 r1 r2
      have hA : Below w.heap.size w (w1.alloc (.cells #[.int .i64 x, .int .i64 y, .int .i64 z] 54)) := hBel.alloc hsz _
      have hAs : w.heap.size ≤ (w1.alloc (.cells #[.int .i64 x, .int .i64 y, .int .i64 z] 54)).heap.size := by simp; omega
      cases hbad : badC (x, y, z) with
      | true =>
        rw [hbad] at hch hv
        simp only [if_true] at hch hv
        have Hch := Lib.hid hch
        clear hl hbad hch
        go_wp2_with (go_at_call 62; refine (hv _).mono ?_; rintro e w2 ⟨rfl, hB2⟩)
        go_ret
        exact ⟨by rw [← Hch.out]; rfl, hA.trans (hB2.mono hAs)⟩
      | false =>
        rw [hbad] at hch hv
        simp only [Bool.false_eq_true, if_false] at hch hv
        have Hch := Lib.hid hch
        clear hl hbad hch
        go_wp2_with (go_at_call 62; refine (hv _).mono ?_; rintro e w2 ⟨rfl, hB2⟩)
        exact ⟨⟨k + 1, hkn, rfl, hA.trans (hB2.mono hAs), Hch.out⟩, by simp [intOf]; omega⟩
    · have e : outI l = 0 := by rw [← hch]; simp [outI]
      have He := Lib.hid e
      clear hl hch e
      go_wp2
      go_ret
      exact ⟨by rw [He.out]; rfl, hBel⟩
end Go.Proofs
end
