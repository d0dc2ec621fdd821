import Derived.Test.YtfdhppdkgfioaaaGreatDoorRefC
import Derived.Test.YtfdhppdkgfioaaaGreatDoorCells
import Derived.Laws.OwnMore
import Derived.Lib.Hide
section
namespace Go.Proofs
open Go.RowKit
set_option maxHeartbeats 4000000
set_option maxRecDepth 1000000
theorem refCheck_ok (l : List Cel) (blk off cap : Nat) (w : World) (hl : RowAt w blk off l) (hb : blk < w.heap.size) (hn : l.length ≤ 4096) (hfit : ∀ c ∈ l, farB c.1 1000 = false ∧ farB c.2.1 1000 = false ∧ farB c.2.2 1000 = false) (hasc : Asc l) :
    Calls Tryz.prog 10 #[.slice (some ⟨blk, off, none⟩) l.length cap] w fun e w' => e = .returned (.int .i64 0) ∧ Below w.heap.size w w' := by
  go_enter Tryz.func10, Tryz.ntmps10
  have hn' : ¬ ((4096 : Int) < l.length) := by omega
  go_wp2
  go_loopw [3] (fun i wr => ∃ k : Nat, k ≤ l.length ∧ i = .int .i64 k ∧ Below w.heap.size w wr) (fun i _ => l.length - (intOf i).toNat)
  case atStart => exact ⟨0, Nat.zero_le _, rfl, Below.refl _ _⟩
  case round =>
    obtain ⟨k, hk, rfl, hBel⟩ := hrel
    rcases Nat.lt_or_eq_of_le hk with hkn | rfl
    · obtain ⟨x, y, z, hc⟩ : ∃ x y z, l[k]? = some (x, y, z) := ⟨_, _, _, List.getElem?_eq_getElem hkn⟩
      obtain ⟨fx, fy, fz⟩ := hfit _ (List.mem_of_getElem? hc)
      have hv := fun W => refCheckCell_ok x y z W fx fy fz
      obtain ⟨r0, r1, r2⟩ := hl k _ hc
      rw [← hBel.cell (p := ⟨blk, off + k * 3, none⟩) hb] at r0
      rw [← hBel.cell (p := ⟨blk, off + k * 3 + 1, none⟩) hb] at r1
      rw [← hBel.cell (p := ⟨blk, off + k * 3 + 2, none⟩) hb] at r2
      have hsz := hBel.size
      rcases Nat.eq_zero_or_pos k with rfl | hpos
      · simp only [Nat.zero_mul, Nat.add_zero] at r0 r1 r2
        clear hl hfit hasc fx fy fz
        go_wp2_with (go_at_call 16; refine (hv _).mono ?_; rintro e w2 ⟨rfl, hB2⟩)
        have hB3 : Below w.heap.size w w2 := hBel.trans (hB2.mono hsz)
        clear hB2 hv hBel
        go_quiet (fail)
        go_wp2
        exact ⟨⟨1, hkn, rfl, ⟨hB3.os, hB3.tape, hB3.output, hB3.size, hB3.block⟩⟩, by simp [intOf]; omega⟩
      · obtain ⟨px, py, pz, hp⟩ : ∃ x y z, l[k-1]? = some (x, y, z) := ⟨_, _, _, List.getElem?_eq_getElem (by omega)⟩
        have hlt := hasc (k-1) (px, py, pz) (x, y, z) hp (by rw [show k - 1 + 1 = k by omega]; exact hc)
        have hcm := fun W => before_ok px py pz x y z W
        dsimp only at hlt
        rw [decide_eq_true hlt] at hcm
        obtain ⟨q0, q1, q2⟩ := hl (k-1) _ hp
        clear hl hfit hasc fx fy fz hlt
        go_wp2_with (go_at_call 16; refine (hv _).mono ?_; rintro e w2 ⟨rfl, hB2⟩)
        have hB3 : Below w.heap.size w w2 := hBel.trans (hB2.mono hsz)
        rw [← hB3.cell (p := ⟨blk, off + (k - 1) * 3, none⟩) hb] at q0
        rw [← hB3.cell (p := ⟨blk, off + (k - 1) * 3 + 1, none⟩) hb] at q1
        rw [← hB3.cell (p := ⟨blk, off + (k - 1) * 3 + 2, none⟩) hb] at q2
        have hlt' : blk < wr.heap.size := by omega
        rw [← hB2.cell (p := ⟨blk, off + k * 3, none⟩) hlt'] at r0
        rw [← hB2.cell (p := ⟨blk, off + k * 3 + 1, none⟩) hlt'] at r1
        rw [← hB2.cell (p := ⟨blk, off + k * 3 + 2, none⟩) hlt'] at r2
        clear hB2 hv hBel
        have hw : IntKind.i64.wrap ((k : Int) - 1) = (k : Int) - 1 := wrapS (by omega)
        have hi0 : 1 ≤ (k : Int) := by omega
        have hi1 : (k : Int) - 1 < l.length := by omega
        have hit : ((k : Int) - 1).toNat = k - 1 := by omega
        have hd : decide ((0 : Int) < k) = true := by simp; omega
        go_still_tail 12, (by kernel_rfl)
        change wpList _ _ _ _ _ w2.drew
        have hB4 : Below w.heap.size w w2.drew := ⟨hB3.os, hB3.tape, hB3.output, hB3.size, hB3.block⟩
        clear q0 q1 q2 r0 r1 r2 hw hi0 hi1 hit hd hB3
        generalize w2.drew = w3 at hB4 ⊢
        go_wp2_with (go_at_call 56; refine (hcm _).mono ?_; rintro e w4 ⟨rfl, hB5⟩)
        exact ⟨⟨k + 1, hkn, rfl, hB4.trans (hB5.mono hB4.size)⟩, by simp [intOf]; omega⟩
    · clear hl hfit hasc
      go_wp2
      go_ret
      exact ⟨rfl, hBel⟩
theorem eqCell (x y z x' y' z' : Int) (w : World) : (Op.equalIn 10000 24 (.agg #[.int .i64 x, .int .i64 y, .int .i64 z]) (.agg #[.int .i64 x', .int .i64 y', .int .i64 z'])).run Tryz.prog w = .ok (x == x' && (y == y' && z == z')) w := by
  have u3 := Tryz.underlying3
  have a3 := Tryz.isAgg3
  have z3 := Tryz.sizeOf3
  have hS : Tryz.prog.underlying 24 = some (.struct (Tryz.prog.fieldsOf 24)) := by kernel_rfl
  have hp : Tryz.prog.stoodInHeld 24 = false := by kernel_rfl
  rw [show (10000 : Nat) = 9999 + 1 from rfl, run_equalIn_agg w 9999 24 _ _ hS hp]
  simp only [Program.fieldsOf, Tryz.underlying24]
  go_simp
  by_cases h1 : x = x' <;> by_cases h2 : y = y' <;> by_cases h3 : z = z' <;> simp [h1, h2, h3]
theorem same_len (l m : List Cel) (n bl ol cl bm om cm : Nat) (w : World) (hl : RowAt w bl ol l) (hm : RowAt w bm om m) (hn : n ≤ 4096) (hln : l.length = n) (hmn : m.length = n) (b : Bool) (hbt : l = m → b = true) (hbf : l ≠ m → b = false) :
    Calls Tryz.prog 47 #[.slice (some ⟨bl, ol, none⟩) n cl, .slice (some ⟨bm, om, none⟩) n cm] w fun e w' => e = .returned (.bool b) ∧ ∃ q, w' = w.drewN q := by
  go_enter Tryz.func47, Tryz.ntmps47
  go_wp2
  go_loopw [5] (fun i wr => ∃ k q : Nat, k ≤ n ∧ i = .int .i64 k ∧ (∀ j, j < k → l[j]? = m[j]?) ∧ wr = w.drewN q) (fun i _ => n - (intOf i).toNat)
  case atStart => exact ⟨0, 0, Nat.zero_le _, rfl, fun j h => absurd h (Nat.not_lt_zero j), rfl⟩
  case round =>
    obtain ⟨k, q, hk, rfl, hall, rfl⟩ := hrel
    rcases Nat.lt_or_eq_of_le hk with hkn | rfl
    · obtain ⟨x, y, z, hc⟩ : ∃ x y z, l[k]? = some (x, y, z) := ⟨_, _, _, List.getElem?_eq_getElem (by omega)⟩
      obtain ⟨x', y', z', hc'⟩ : ∃ x y z, m[k]? = some (x, y, z) := ⟨_, _, _, List.getElem?_eq_getElem (by omega)⟩
      obtain ⟨r0, r1, r2⟩ := hl k _ hc
      obtain ⟨q0, q1, q2⟩ := hm k _ hc'
      have heq := fun W => eqCell x y z x' y' z' W
      have i0 : (0 : Int) ≤ k := by omega
      have i1 : (k : Int) < n := by omega
      clear hl hm hln hmn
      by_cases he : (x, y, z) = (x', y', z')
      · obtain ⟨rfl, rfl, rfl⟩ : x = x' ∧ y = y' ∧ z = z' := by simpa using he
        have hb : (x == x && (y == y && z == z)) = true := by simp
        rw [hb] at heq
        clear hb he
        have hall' : ∀ j, j < k + 1 → l[j]? = m[j]? := fun j hj => by
          rcases Nat.lt_or_eq_of_le (Nat.le_of_lt_succ hj) with h | rfl
          · exact hall j h
          · rw [hc, hc']
        clear hall
        go_wp2_with fail
        go_quiet (fail)
        go_wp2
        exact ⟨⟨k + 1, q + _, hkn, rfl, hall', rfl⟩, by simp [intOf]; omega⟩
      · have hb : (x == x' && (y == y' && z == z')) = false := by
          simp only [Bool.and_eq_false_iff, beq_eq_false_iff_ne, ne_eq]
          simp only [Prod.mk.injEq] at he
          omega
        rw [hb] at heq
        have hne : l ≠ m := fun e => by
          subst e
          rw [hc] at hc'
          exact he (by simpa using hc')
        have hbb := hbf hne
        clear hb he hall hne hbt hbf
        go_wp2_with fail
        go_quiet (fail)
        go_wp2
        go_ret
        exact ⟨by rw [hbb]; rfl, _, World.drewN_drewN _ _ _⟩
    · have hE : l = m := List.ext_getElem? fun j => by
        rcases Nat.lt_or_ge j k with h | h
        · exact hall j h
        · rw [List.getElem?_eq_none (by omega), List.getElem?_eq_none (by omega)]
      have hbb := hbt hE
      clear hl hm hall hE hbt hbf hln hmn
      go_wp2
      go_ret
      exact ⟨by rw [hbb]; rfl, q, rfl⟩
theorem sameCells_ok (l m : List Cel) (bl ol cl bm om cm : Nat) (w : World) (hl : RowAt w bl ol l) (hm : RowAt w bm om m) (hn : l.length ≤ 4096) :
    Calls Tryz.prog 47 #[.slice (some ⟨bl, ol, none⟩) l.length cl, .slice (some ⟨bm, om, none⟩) m.length cm] w fun e w' => e = .returned (.bool (decide (l = m))) ∧ ∃ q, w' = w.drewN q := by
  by_cases hlen : l.length = m.length
  · have := same_len l m l.length bl ol cl bm om cm w hl hm hn rfl hlen.symm (decide (l = m)) (fun h => decide_eq_true h) (fun h => decide_eq_false h)
    rw [← hlen]
    exact this
  · have hle : ¬ ((l.length : Int) = m.length) := by omega
    have hne : l ≠ m := fun e => hlen (by rw [e])
    rw [decide_eq_false hne]
    go_enter Tryz.func47, Tryz.ntmps47
    go_wp2
    all_goals go_ret
    all_goals (first | exact ⟨rfl, 0, rfl⟩ | (simp_all))
end Go.Proofs
end

section
/- Slices of cells: what a slice value reads as, and rows of a call's own. -/
namespace Go.Proofs
open Go.RowKit
set_option maxRecDepth 1000000
/-- A slice value that reads as a list of cells: nil, empty or not. -/
def Sl (w : World) (v : Value) (l : List Cel) : Prop :=
  (v = .slice none 0 0 ∧ l = []) ∨ ∃ (a : Addr) (cap : Nat), v = .slice (some a) l.length cap ∧ (l ≠ [] → a.spot = none ∧ a.block < w.heap.size ∧ RowAt w a.block a.off l)
theorem RowAt.below {w w' : World} {b o : Nat} {l : List Cel} (h : RowAt w b o l) {B : Nat} (hb : Below B w w') (hB : b < B) : RowAt w' b o l := fun i c hi => by
  obtain ⟨r0, r1, r2⟩ := h i c hi
  exact ⟨(hb.cell (p := ⟨b, _, none⟩) hB).trans r0, (hb.cell (p := ⟨b, _, none⟩) hB).trans r1, (hb.cell (p := ⟨b, _, none⟩) hB).trans r2⟩
theorem Sl.below {w w' : World} {v : Value} {l : List Cel} (h : Sl w v l) (hb : Below w.heap.size w w') : Sl w' v l := by
  rcases h with h | ⟨a, cap, rfl, h⟩
  · exact .inl h
  · refine .inr ⟨a, cap, rfl, fun hl => ?_⟩
    obtain ⟨h1, h2, h3⟩ := h hl
    exact ⟨h1, Nat.lt_of_lt_of_le h2 hb.size, h3.below hb h2⟩
theorem Sl.row {w : World} {b o cap : Nat} {l : List Cel} (h : RowAt w b o l) (hb : b < w.heap.size) : Sl w (.slice (some ⟨b, o, none⟩) l.length cap) l := .inr ⟨_, cap, rfl, fun _ => ⟨rfl, hb, h⟩⟩
/-- The cell at a place. -/
theorem Sl.at_ {w : World} {a : Addr} {l : List Cel} (h : l ≠ [] → a.spot = none ∧ a.block < w.heap.size ∧ RowAt w a.block a.off l) {k : Nat} (hk : k < l.length) :
    ∃ b o x y z, a = ⟨b, o, none⟩ ∧ b < w.heap.size ∧ l[k]? = some (x, y, z) ∧ w.cell? ⟨b, o + k * 3, none⟩ = some (.int .i64 x) ∧ w.cell? ⟨b, o + k * 3 + 1, none⟩ = some (.int .i64 y) ∧ w.cell? ⟨b, o + k * 3 + 2, none⟩ = some (.int .i64 z) := by
  obtain ⟨b, o, s⟩ := a
  obtain ⟨h1, h2, h3⟩ := h (fun e => by subst e; exact absurd hk (Nat.not_lt_zero k))
  obtain rfl : s = none := h1
  obtain ⟨r0, r1, r2⟩ := h3 k _ (List.getElem?_eq_getElem hk)
  exact ⟨b, o, _, _, _, rfl, h2, List.getElem?_eq_getElem hk, r0, r1, r2⟩
theorem Sl.form {w : World} {v : Value} {l : List Cel} (h : Sl w v l) : ∃ (A : Option Addr) (cap : Nat), v = .slice A l.length cap := by
  rcases h with ⟨rfl, rfl⟩ | ⟨a, cap, rfl, _⟩
  · exact ⟨none, 0, rfl⟩
  · exact ⟨some a, cap, rfl⟩
theorem Sl.cells {w : World} {A : Option Addr} {n cap : Nat} {l : List Cel} (h : Sl w (.slice A n cap) l) {k : Nat} (hk : k < l.length) :
    ∃ b o x y z, A = some ⟨b, o, none⟩ ∧ n = l.length ∧ b < w.heap.size ∧ l[k]? = some (x, y, z) ∧ w.cell? ⟨b, o + k * 3, none⟩ = some (.int .i64 x) ∧ w.cell? ⟨b, o + k * 3 + 1, none⟩ = some (.int .i64 y) ∧ w.cell? ⟨b, o + k * 3 + 2, none⟩ = some (.int .i64 z) := by
  rcases h with ⟨_, rfl⟩ | ⟨a, cap', e, h⟩
  · exact absurd hk (Nat.not_lt_zero k)
  · injection e with e1 e2 _
    obtain ⟨b, o, x, y, z, rfl, r⟩ := Sl.at_ h hk
    exact ⟨b, o, x, y, z, e1, e2, r⟩
/-- A row of a call's own. -/
def Own (w : World) (B : Nat) (v : Value) (l : List Cel) : Prop := w.ownsRow B 24 3 v l.length (flatC l)
theorem Own.nil (w : World) (B : Nat) : Own w B (.slice none 0 0) [] := World.ownsRow_nil w B _ _
theorem Own.form {w : World} {B : Nat} {v : Value} {l : List Cel} (h : Own w B v l) : (v = .slice none 0 0 ∧ l = []) ∨ ∃ g cap, v = .slice (some ⟨g, 0, none⟩) l.length cap ∧ B ≤ g ∧ g < w.heap.size ∧ RowAt w g 0 l := by
  have h' := h
  rcases h.2 with ⟨h1, h2⟩ | ⟨g, cap, cur, rfl, hB, hg, _⟩
  · exact .inl ⟨h1, List.eq_nil_of_length_eq_zero h2⟩
  · exact .inr ⟨g, cap, rfl, hB, (Array.getElem?_eq_some_iff.1 hg).1, owns_row h'⟩
theorem Own.sl {w : World} {B : Nat} {v : Value} {l : List Cel} (h : Own w B v l) : Sl w v l := by
  rcases h.form with h | ⟨g, cap, rfl, _, hg, hr⟩
  · exact .inl h
  · exact .row hr hg
theorem flatC_cons (c : Cel) (l : List Cel) : flatC (c :: l) = .int .i64 c.1 :: .int .i64 c.2.1 :: .int .i64 c.2.2 :: flatC l := by simp [flatC, encC]
theorem flatC_set (x y z : Int) : ∀ (l : List Cel) (k : Nat), k < l.length → (((flatC l).set (k * 3) (.int .i64 x)).set (k * 3 + 1) (.int .i64 y)).set (k * 3 + 2) (.int .i64 z) = flatC (l.set k (x, y, z))
  | [], k, h => absurd h (Nat.not_lt_zero k)
  | c :: l, 0, _ => by simp [flatC_cons]
  | c :: l, k + 1, h => by
    have ih := flatC_set x y z l k (Nat.lt_of_succ_lt_succ h)
    rw [List.set_cons_succ, flatC_cons, flatC_cons, ← ih]
    rw [show (k + 1) * 3 = k * 3 + 1 + 1 + 1 by omega, show k * 3 + 1 + 1 + 1 + 1 = (k * 3 + 1) + 1 + 1 + 1 by omega, show k * 3 + 1 + 1 + 1 + 2 = (k * 3 + 2) + 1 + 1 + 1 by omega]
    simp only [List.set_cons_succ]
theorem Own.store {w : World} {B g n cap : Nat} {l : List Cel} (h : Own w B (.slice (some ⟨g, 0, none⟩) n cap) l) (hn : n = l.length) {k : Nat} (hk : k < n) (x y z : Int) :
    Own (((w.setCell ⟨g, k * 3, none⟩ (.int .i64 x)).setCell ⟨g, k * 3 + 1, none⟩ (.int .i64 y)).setCell ⟨g, k * 3 + 2, none⟩ (.int .i64 z)) B (.slice (some ⟨g, 0, none⟩) n cap) (l.set k (x, y, z)) := by
  subst hn
  have h1 := ((h.stored (k * 3) (.int .i64 x)).1.stored (k * 3 + 1) (.int .i64 y)).1.stored (k * 3 + 2) (.int .i64 z)
  rw [flatC_set x y z l k hk] at h1
  unfold Own
  rw [List.length_set]
  exact h1.1
theorem Own.alloc {w : World} {B : Nat} {v : Value} {l : List Cel} (h : Own w B v l) (o : Obj) : Own (w.alloc o) B v l := World.ownsRow.alloc h o
theorem Own.keep {w w' : World} {B : Nat} {v : Value} {l : List Cel} (h : Own w B v l) (hb : Below w.heap.size w w') : Own w' B v l := by
  refine ⟨h.1, ?_⟩
  rcases h.2 with h1 | ⟨g, cap, cur, rfl, hB, hg, r⟩
  · exact .inl h1
  · refine .inr ⟨g, cap, cur, rfl, hB, ?_, r⟩
    rw [hb.block g (Array.getElem?_eq_some_iff.1 hg).1]
    exact hg
theorem flatC_append (l m : List Cel) : flatC (l ++ m) = flatC l ++ flatC m := by simp [flatC]
theorem Own.len {w : World} {B : Nat} {v : Value} {l : List Cel} (h : Own w B v l) : l.length ≤ maxLen := by
  rcases h.2 with ⟨_, h2⟩ | ⟨_, _, _, _, _, _, h1, h2, _⟩
  · omega
  · omega
theorem Own.lower {w : World} {B B' : Nat} {v : Value} {l : List Cel} (h : Own w B' v l) (hle : B ≤ B') : Own w B v l := ⟨h.1, h.2.imp id fun ⟨g, cap, cur, h1, h2, r⟩ => ⟨g, cap, cur, h1, Nat.le_trans hle h2, r⟩⟩
end Go.Proofs
end
