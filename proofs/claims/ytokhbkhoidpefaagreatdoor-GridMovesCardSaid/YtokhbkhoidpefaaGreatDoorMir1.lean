import Derived.Test.YtokhbkhoidpefaaGreatDoorShiftR
import Derived.Test.YtokhbkhoidpefaaGreatDoorUnionR
section
/- The reference's Mirror. -/
namespace Go.Proofs
open Go.Shelf Go.RowKit Go.Lib Go.Sort
set_option maxHeartbeats 8000000
set_option maxRecDepth 1000000
def mirT (j : Nat) (t : Int) (c : Cel) : Cel := match j with
  | 0 => (2 * t - c.1, c.2.1, c.2.2)
  | 1 => (c.1, 2 * t - c.2.1, c.2.2)
  | _ => (c.1, c.2.1, 2 * t - c.2.2)
theorem refMirror_0 (l : List Cel) (v : Value) (t : Int) (w : World) (hl : Sl w v l) (hn : l.length ≤ 400000) (ht : -1000 ≤ t ∧ t ≤ 1000) (hbig : ∀ c ∈ l, Near c 1000) :
    Calls Tryz.prog 21 #[v, .int .i64 0, .int .i64 t] w fun e w' => ∃ v' out, e = .returned v' ∧ Own w' w.heap.size v' out ∧ Up out ∧ (∀ c, c ∈ out ↔ c ∈ l.map (mirT 0 t)) ∧ Below w.heap.size w w' := by
  obtain ⟨A, cap, rfl⟩ := hl.form
  have wt : IntKind.i64.wrap (2 * t) = 2 * t := wrapS (by omega)
  go_enter Tryz.func21, Tryz.ntmps21
  go_wp2
  go_loopw [7, 8] (fun s i wr => ∃ k : Nat, k ≤ l.length ∧ i = .int .i64 k ∧ Own wr w.heap.size s ((l.take k).map (mirT 0 t)) ∧ Below w.heap.size w wr) (fun _ i _ => l.length - (intOf i).toNat)
  case atStart => exact ⟨0, Nat.zero_le _, rfl, Own.nil _ _, Below.refl _ _⟩
  case round =>
    obtain ⟨k, hk, rfl, hown, hBel⟩ := hrel
    rename World => w1
    rcases Nat.lt_or_eq_of_le hk with hkn | rfl
    · obtain ⟨bk, o, x, y, z, rfl, -, hbk, hc, r0, r1, r2⟩ := (hl.below hBel).cells hkn
      have hnear := hbig _ (List.mem_of_getElem? hc)
      unfold Near at hnear
      dsimp only at hnear
      have wx : IntKind.i64.wrap (2 * t - x) = 2 * t - x := wrapS (by omega)
      have hft : (l.take (k + 1)).map (mirT 0 t) = (l.take k).map (mirT 0 t) ++ [((2 * t - x), y, z)] := by
        rw [List.take_add_one, hc]; simp [mirT]
      have hlen : ((l.take k).map (mirT 0 t)).length ≤ 400000 := by rw [List.length_map, List.length_take]; omega
      have Hft := Lib.hid hft
      have hsz := hBel.size
      clear hl hbig hc hft hnear ht
      have hB2 : Below w1.heap.size w1 (w1.alloc (.cells #[.int .i64 (2 * t - x), .int .i64 y, .int .i64 z] 24)) := (Below.refl _ _).alloc (Nat.le_refl _) _
      have hown2 := (hown.keep hB2).alloc (.cells #[.int .i64 (2 * t - x), .int .i64 y, .int .i64 z] 24)
      have hBa := (hBel.trans (hB2.mono hsz)).alloc (Nat.le_trans hsz hB2.size) (.cells #[.int .i64 (2 * t - x), .int .i64 y, .int .i64 z] 24)
      have hro := row_one (w1.alloc (.cells #[.int .i64 (2 * t - x), .int .i64 y, .int .i64 z] 24)) (2 * t - x) y z
      rw [show (w1.alloc (.cells #[.int .i64 (2 * t - x), .int .i64 y, .int .i64 z] 24)).heap.size = w1.heap.size + 1 by simp] at hro
      go_wp2_with (at_builtin; refine wpList_append_sl rfl _ _ rfl w.heap.size ?cE _ _ rfl hown2 _ [((2 * t - x), y, z)] rfl (.inr ⟨_, 1, rfl, hro⟩) ?cC ?_)
      case cC => simp at hlen ⊢; omega
      case cE => omega
      intro v1 w3 hown3 hB3
      go_wp2
      exact ⟨⟨k + 1, hkn, rfl, by rw [Hft.out, List.map_take]; exact hown3, hBa.trans hB3⟩, by simp [intOf]; omega⟩
    · rw [List.take_length] at hown
      have hs := refSorted_ok _ _ w1 hown.sl (by rw [List.length_map]; omega)
      clear hl hbig wt
      go_wp2_with (go_at_call 81; refine hs.mono ?_; rintro e w9 ⟨v', out, rfl, ho, hu, hmem, hB9⟩)
      go_ret
      exact ⟨_, out, rfl, ho.mono hBel.size, hu, hmem, hBel.trans (hB9.mono hBel.size)⟩
theorem refMirror_1 (l : List Cel) (v : Value) (t : Int) (w : World) (hl : Sl w v l) (hn : l.length ≤ 400000) (ht : -1000 ≤ t ∧ t ≤ 1000) (hbig : ∀ c ∈ l, Near c 1000) :
    Calls Tryz.prog 21 #[v, .int .i64 1, .int .i64 t] w fun e w' => ∃ v' out, e = .returned v' ∧ Own w' w.heap.size v' out ∧ Up out ∧ (∀ c, c ∈ out ↔ c ∈ l.map (mirT 1 t)) ∧ Below w.heap.size w w' := by
  obtain ⟨A, cap, rfl⟩ := hl.form
  have wt : IntKind.i64.wrap (2 * t) = 2 * t := wrapS (by omega)
  go_enter Tryz.func21, Tryz.ntmps21
  go_wp2
  go_loopw [7, 8] (fun s i wr => ∃ k : Nat, k ≤ l.length ∧ i = .int .i64 k ∧ Own wr w.heap.size s ((l.take k).map (mirT 1 t)) ∧ Below w.heap.size w wr) (fun _ i _ => l.length - (intOf i).toNat)
  case atStart => exact ⟨0, Nat.zero_le _, rfl, Own.nil _ _, Below.refl _ _⟩
  case round =>
    obtain ⟨k, hk, rfl, hown, hBel⟩ := hrel
    rename World => w1
    rcases Nat.lt_or_eq_of_le hk with hkn | rfl
    · obtain ⟨bk, o, x, y, z, rfl, -, hbk, hc, r0, r1, r2⟩ := (hl.below hBel).cells hkn
      have hnear := hbig _ (List.mem_of_getElem? hc)
      unfold Near at hnear
      dsimp only at hnear
      have wx : IntKind.i64.wrap (2 * t - y) = 2 * t - y := wrapS (by omega)
      have hft : (l.take (k + 1)).map (mirT 1 t) = (l.take k).map (mirT 1 t) ++ [(x, (2 * t - y), z)] := by
        rw [List.take_add_one, hc]; simp [mirT]
      have hlen : ((l.take k).map (mirT 1 t)).length ≤ 400000 := by rw [List.length_map, List.length_take]; omega
      have Hft := Lib.hid hft
      have hsz := hBel.size
      clear hl hbig hc hft hnear ht
      have hB2 : Below w1.heap.size w1 (w1.alloc (.cells #[.int .i64 x, .int .i64 (2 * t - y), .int .i64 z] 24)) := (Below.refl _ _).alloc (Nat.le_refl _) _
      have hown2 := (hown.keep hB2).alloc (.cells #[.int .i64 x, .int .i64 (2 * t - y), .int .i64 z] 24)
      have hBa := (hBel.trans (hB2.mono hsz)).alloc (Nat.le_trans hsz hB2.size) (.cells #[.int .i64 x, .int .i64 (2 * t - y), .int .i64 z] 24)
      have hro := row_one (w1.alloc (.cells #[.int .i64 x, .int .i64 (2 * t - y), .int .i64 z] 24)) x (2 * t - y) z
      rw [show (w1.alloc (.cells #[.int .i64 x, .int .i64 (2 * t - y), .int .i64 z] 24)).heap.size = w1.heap.size + 1 by simp] at hro
      go_wp2_with (at_builtin; refine wpList_append_sl rfl _ _ rfl w.heap.size ?cE _ _ rfl hown2 _ [(x, (2 * t - y), z)] rfl (.inr ⟨_, 1, rfl, hro⟩) ?cC ?_)
      case cC => simp at hlen ⊢; omega
      case cE => omega
      intro v1 w3 hown3 hB3
      go_wp2
      exact ⟨⟨k + 1, hkn, rfl, by rw [Hft.out, List.map_take]; exact hown3, hBa.trans hB3⟩, by simp [intOf]; omega⟩
    · rw [List.take_length] at hown
      have hs := refSorted_ok _ _ w1 hown.sl (by rw [List.length_map]; omega)
      clear hl hbig wt
      go_wp2_with (go_at_call 81; refine hs.mono ?_; rintro e w9 ⟨v', out, rfl, ho, hu, hmem, hB9⟩)
      go_ret
      exact ⟨_, out, rfl, ho.mono hBel.size, hu, hmem, hBel.trans (hB9.mono hBel.size)⟩
theorem refMirror_2 (l : List Cel) (v : Value) (t : Int) (w : World) (hl : Sl w v l) (hn : l.length ≤ 400000) (ht : -1000 ≤ t ∧ t ≤ 1000) (hbig : ∀ c ∈ l, Near c 1000) :
    Calls Tryz.prog 21 #[v, .int .i64 2, .int .i64 t] w fun e w' => ∃ v' out, e = .returned v' ∧ Own w' w.heap.size v' out ∧ Up out ∧ (∀ c, c ∈ out ↔ c ∈ l.map (mirT 2 t)) ∧ Below w.heap.size w w' := by
  obtain ⟨A, cap, rfl⟩ := hl.form
  have wt : IntKind.i64.wrap (2 * t) = 2 * t := wrapS (by omega)
  go_enter Tryz.func21, Tryz.ntmps21
  go_wp2
  go_loopw [7, 8] (fun s i wr => ∃ k : Nat, k ≤ l.length ∧ i = .int .i64 k ∧ Own wr w.heap.size s ((l.take k).map (mirT 2 t)) ∧ Below w.heap.size w wr) (fun _ i _ => l.length - (intOf i).toNat)
  case atStart => exact ⟨0, Nat.zero_le _, rfl, Own.nil _ _, Below.refl _ _⟩
  case round =>
    obtain ⟨k, hk, rfl, hown, hBel⟩ := hrel
    rename World => w1
    rcases Nat.lt_or_eq_of_le hk with hkn | rfl
    · obtain ⟨bk, o, x, y, z, rfl, -, hbk, hc, r0, r1, r2⟩ := (hl.below hBel).cells hkn
      have hnear := hbig _ (List.mem_of_getElem? hc)
      unfold Near at hnear
      dsimp only at hnear
      have wx : IntKind.i64.wrap (2 * t - z) = 2 * t - z := wrapS (by omega)
      have hft : (l.take (k + 1)).map (mirT 2 t) = (l.take k).map (mirT 2 t) ++ [(x, y, (2 * t - z))] := by
        rw [List.take_add_one, hc]; simp [mirT]
      have hlen : ((l.take k).map (mirT 2 t)).length ≤ 400000 := by rw [List.length_map, List.length_take]; omega
      have Hft := Lib.hid hft
      have hsz := hBel.size
      clear hl hbig hc hft hnear ht
      have hB2 : Below w1.heap.size w1 (w1.alloc (.cells #[.int .i64 x, .int .i64 y, .int .i64 (2 * t - z)] 24)) := (Below.refl _ _).alloc (Nat.le_refl _) _
      have hown2 := (hown.keep hB2).alloc (.cells #[.int .i64 x, .int .i64 y, .int .i64 (2 * t - z)] 24)
      have hBa := (hBel.trans (hB2.mono hsz)).alloc (Nat.le_trans hsz hB2.size) (.cells #[.int .i64 x, .int .i64 y, .int .i64 (2 * t - z)] 24)
      have hro := row_one (w1.alloc (.cells #[.int .i64 x, .int .i64 y, .int .i64 (2 * t - z)] 24)) x y (2 * t - z)
      rw [show (w1.alloc (.cells #[.int .i64 x, .int .i64 y, .int .i64 (2 * t - z)] 24)).heap.size = w1.heap.size + 1 by simp] at hro
      go_wp2_with (at_builtin; refine wpList_append_sl rfl _ _ rfl w.heap.size ?cE _ _ rfl hown2 _ [(x, y, (2 * t - z))] rfl (.inr ⟨_, 1, rfl, hro⟩) ?cC ?_)
      case cC => simp at hlen ⊢; omega
      case cE => omega
      intro v1 w3 hown3 hB3
      go_wp2
      exact ⟨⟨k + 1, hkn, rfl, by rw [Hft.out, List.map_take]; exact hown3, hBa.trans hB3⟩, by simp [intOf]; omega⟩
    · rw [List.take_length] at hown
      have hs := refSorted_ok _ _ w1 hown.sl (by rw [List.length_map]; omega)
      clear hl hbig wt
      go_wp2_with (go_at_call 81; refine hs.mono ?_; rintro e w9 ⟨v', out, rfl, ho, hu, hmem, hB9⟩)
      go_ret
      exact ⟨_, out, rfl, ho.mono hBel.size, hu, hmem, hBel.trans (hB9.mono hBel.size)⟩
end Go.Proofs
end

section
/- grid.Mirror's closure, about any plane. -/
namespace Go.Proofs
open Go.RowKit
set_option maxHeartbeats 8000000
set_option maxRecDepth 1000000
theorem mirrorX1_0 (x y z t : Int) (p q : Nat) (w : World) (h0 : w.cell? ⟨p, 0, none⟩ = some (.int .i64 0)) (h1 : w.cell? ⟨q, 0, none⟩ = some (.int .i64 t)) (hp : p < w.heap.size) (hq : q < w.heap.size)
    (kt : -1000 ≤ t ∧ t ≤ 1000) (k1 : -1000 ≤ x ∧ x ≤ 1000) :
    Calls Tryz.prog 75 #[.agg #[.int .i64 x, .int .i64 y, .int .i64 z], .pointer (some ⟨p, 0, none⟩), .pointer (some ⟨q, 0, none⟩)] w fun e w' => e = .returned (.agg #[.int .i64 (2 * t - x), .int .i64 y, .int .i64 z]) ∧ Below w.heap.size w w' := by
  have wt : IntKind.i64.wrap (2 * t) = 2 * t := wrapS (by omega)
  have wx : IntKind.i64.wrap (2 * t - x) = 2 * t - x := wrapS (by omega)
  clear kt k1
  have hne : p ≠ w.heap.size := by omega
  have hne1 : p ≠ w.heap.size + 1 := by omega
  have hnq : q ≠ w.heap.size := by omega
  have hnq1 : q ≠ w.heap.size + 1 := by omega
  go_enter Tryz.func75, Tryz.ntmps75
  go_wp2
  (try simp only [Exit.inBlock, Exit.then])
  refine bodyPost_ret (results_cell_row rfl _ _ _ 24 #[.int .i64 (2 * t - x), .int .i64 y, .int .i64 z] (0, 0) _ rfl ?_ Tryz.underlying24 rfl (by kernel_rfl)) rfl ?_
  · have := heap_alloc_new (w.alloc (.cells #[.int .i64 (2 * t - x), .int .i64 y, .int .i64 z] 24)) (.cells #[.int .i64 (2 * t - x), .int .i64 y, .int .i64 z] 24)
    rw [show (w.alloc (.cells #[.int .i64 (2 * t - x), .int .i64 y, .int .i64 z] 24)).heap.size = w.heap.size + 1 by simp] at this
    exact this
  · exact ⟨rfl, ((Below.refl _ _).alloc (Nat.le_refl _) _).alloc (by simp) _⟩
theorem mirrorX1_1 (x y z t : Int) (p q : Nat) (w : World) (h0 : w.cell? ⟨p, 0, none⟩ = some (.int .i64 1)) (h1 : w.cell? ⟨q, 0, none⟩ = some (.int .i64 t)) (hp : p < w.heap.size) (hq : q < w.heap.size)
    (kt : -1000 ≤ t ∧ t ≤ 1000) (k1 : -1000 ≤ y ∧ y ≤ 1000) :
    Calls Tryz.prog 75 #[.agg #[.int .i64 x, .int .i64 y, .int .i64 z], .pointer (some ⟨p, 0, none⟩), .pointer (some ⟨q, 0, none⟩)] w fun e w' => e = .returned (.agg #[.int .i64 x, .int .i64 (2 * t - y), .int .i64 z]) ∧ Below w.heap.size w w' := by
  have wt : IntKind.i64.wrap (2 * t) = 2 * t := wrapS (by omega)
  have wx : IntKind.i64.wrap (2 * t - y) = 2 * t - y := wrapS (by omega)
  clear kt k1
  have hne : p ≠ w.heap.size := by omega
  have hne1 : p ≠ w.heap.size + 1 := by omega
  have hnq : q ≠ w.heap.size := by omega
  have hnq1 : q ≠ w.heap.size + 1 := by omega
  go_enter Tryz.func75, Tryz.ntmps75
  go_wp2
  (try simp only [Exit.inBlock, Exit.then])
  refine bodyPost_ret (results_cell_row rfl _ _ _ 24 #[.int .i64 x, .int .i64 (2 * t - y), .int .i64 z] (0, 0) _ rfl ?_ Tryz.underlying24 rfl (by kernel_rfl)) rfl ?_
  · have := heap_alloc_new (w.alloc (.cells #[.int .i64 x, .int .i64 (2 * t - y), .int .i64 z] 24)) (.cells #[.int .i64 x, .int .i64 (2 * t - y), .int .i64 z] 24)
    rw [show (w.alloc (.cells #[.int .i64 x, .int .i64 (2 * t - y), .int .i64 z] 24)).heap.size = w.heap.size + 1 by simp] at this
    exact this
  · exact ⟨rfl, ((Below.refl _ _).alloc (Nat.le_refl _) _).alloc (by simp) _⟩
theorem mirrorX1_2 (x y z t : Int) (p q : Nat) (w : World) (h0 : w.cell? ⟨p, 0, none⟩ = some (.int .i64 2)) (h1 : w.cell? ⟨q, 0, none⟩ = some (.int .i64 t)) (hp : p < w.heap.size) (hq : q < w.heap.size)
    (kt : -1000 ≤ t ∧ t ≤ 1000) (k1 : -1000 ≤ z ∧ z ≤ 1000) :
    Calls Tryz.prog 75 #[.agg #[.int .i64 x, .int .i64 y, .int .i64 z], .pointer (some ⟨p, 0, none⟩), .pointer (some ⟨q, 0, none⟩)] w fun e w' => e = .returned (.agg #[.int .i64 x, .int .i64 y, .int .i64 (2 * t - z)]) ∧ Below w.heap.size w w' := by
  have wt : IntKind.i64.wrap (2 * t) = 2 * t := wrapS (by omega)
  have wx : IntKind.i64.wrap (2 * t - z) = 2 * t - z := wrapS (by omega)
  clear kt k1
  have hne : p ≠ w.heap.size := by omega
  have hne1 : p ≠ w.heap.size + 1 := by omega
  have hnq : q ≠ w.heap.size := by omega
  have hnq1 : q ≠ w.heap.size + 1 := by omega
  go_enter Tryz.func75, Tryz.ntmps75
  go_wp2
  (try simp only [Exit.inBlock, Exit.then])
  refine bodyPost_ret (results_cell_row rfl _ _ _ 24 #[.int .i64 x, .int .i64 y, .int .i64 (2 * t - z)] (0, 0) _ rfl ?_ Tryz.underlying24 rfl (by kernel_rfl)) rfl ?_
  · have := heap_alloc_new (w.alloc (.cells #[.int .i64 x, .int .i64 y, .int .i64 (2 * t - z)] 24)) (.cells #[.int .i64 x, .int .i64 y, .int .i64 (2 * t - z)] 24)
    rw [show (w.alloc (.cells #[.int .i64 x, .int .i64 y, .int .i64 (2 * t - z)] 24)).heap.size = w.heap.size + 1 by simp] at this
    exact this
  · exact ⟨rfl, ((Below.refl _ _).alloc (Nat.le_refl _) _).alloc (by simp) _⟩
end Go.Proofs
end
