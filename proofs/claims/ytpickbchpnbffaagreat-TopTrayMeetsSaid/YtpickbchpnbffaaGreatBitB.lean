import Derived.Test.YtpickbchpnbffaaGreatBoundG
import Derived.Test.YtpickbchpnbffaaGreatHas
import Derived.Test.YtpickbchpnbffaaGreatBitA
section
/- grid.Bound, of a set with cells. -/
namespace Go.Proofs
open Go.RowKit
set_option maxHeartbeats 8000000
set_option maxRecDepth 1000000
theorem Bound_ok (l : List Cel) (h : Cel) (v : Value) (w : World) (hl : Sl w v l) (hh : l[0]? = some h) (hc : chkI l = 0) :
    Calls Tryz.prog 86 #[v] w fun e w' => e = .returned (.tuple #[boxV (bndK h l l.length), .int .i64 0]) ∧ Below w.heap.size w w' := by
  have la := (chkI_zero.1 hc).1
  have hB0 : Below w.heap.size w (w.alloc (.cells #[.int .i64 0, .int .i64 0, .int .i64 0, .int .i64 0, .int .i64 0, .int .i64 0] 125)) := (Below.refl _ _).alloc (Nat.le_refl _) _
  have h1 := gridCheckG l v _ (hl.below hB0) (by unfold maxLen; omega)
  rw [hc] at h1
  have hb := fun W (hW : Below w.heap.size w W) => bound_ok l h v W (hl.below hW) hh (by omega)
  have hpos : 0 < l.length := (List.getElem?_eq_some_iff.1 hh).1
  obtain ⟨A, cap, rfl⟩ := hl.form
  have hn0 : (((l.length : Nat) : Int) == 0) = false := by rw [beq_eq_false_iff_ne]; omega
  generalize bndK h l l.length = B at hb ⊢
  obtain ⟨⟨lx, ly, lz⟩, ⟨ux, uy, uz⟩⟩ := B
  unfold boxV at hb ⊢
  dsimp only at hb ⊢
  have hz0 : (w.alloc (.cells #[.int .i64 0, .int .i64 0, .int .i64 0, .int .i64 0, .int .i64 0, .int .i64 0] 125)).heap[w.heap.size]? = some (.cells #[.int .i64 0, .int .i64 0, .int .i64 0, .int .i64 0, .int .i64 0, .int .i64 0] 125 (0, 0)) := heap_alloc_new w _
  have hlt : w.heap.size < (w.alloc (.cells #[.int .i64 0, .int .i64 0, .int .i64 0, .int .i64 0, .int .i64 0, .int .i64 0] 125)).heap.size := by simp
  clear hl hh hc la
  go_enter Tryz.func86, Tryz.ntmps86
  generalize l.length = n at h1 hb hn0 hpos ⊢
  obtain ⟨W, hW⟩ : ∃ W, W = w.alloc (.cells #[.int .i64 0, .int .i64 0, .int .i64 0, .int .i64 0, .int .i64 0, .int .i64 0] 125) := ⟨_, rfl⟩
  rw [← hW] at h1 hB0 hz0 hlt
  go_wp2_with fail
  rw [← hW]
  clear hW
  refine h1.mono ?_
  rintro e w2 ⟨rfl, hB2⟩
  have hB02 := hB0.trans (hB2.mono hB0.size)
  have hb2 := hb w2 hB02
  have hlt2 : w.heap.size < w2.heap.size := Nat.lt_of_lt_of_le hlt hB2.size
  have hz2 := (hB2.block _ hlt).trans hz0
  clear h1 hb hB0 hB2 hz0
  go_wp2_with fail
  refine hb2.mono ?_
  rintro e w3 ⟨rfl, hB3⟩
  have hB03 := hB02.trans (hB3.mono hB02.size)
  have hz := (hB3.block _ hlt2).trans hz2
  have zl := fun j => cell_of_row w3 w.heap.size j _ _ _ hz
  have z0 := zl 0
  have z1 := zl 1
  have z2 := zl 2
  have z3 := zl 3
  have z4 := zl 4
  have z5 := zl 5
  simp at z0 z1 z2 z3 z4 z5
  have fz := fun j => frozen_of_row w3 w.heap.size j _ _ hz
  have hle := Nat.le_refl w.heap.size
  have hB' := (((((hB03.setCell (p := ⟨w.heap.size, 0, none⟩) hle (.int .i64 lx)).setCell (p := ⟨w.heap.size, 1, none⟩) hle (.int .i64 ly)).setCell (p := ⟨w.heap.size, 2, none⟩) hle (.int .i64 lz)).setCell (p := ⟨w.heap.size, 3, none⟩) hle (.int .i64 ux)).setCell (p := ⟨w.heap.size, 4, none⟩) hle (.int .i64 uy)).setCell (p := ⟨w.heap.size, 5, none⟩) hle (.int .i64 uz)
  have hz' := heap_setCell_same _ w.heap.size 5 _ _ (.int .i64 uz) (heap_setCell_same _ w.heap.size 4 _ _ (.int .i64 uy) (heap_setCell_same _ w.heap.size 3 _ _ (.int .i64 ux) (heap_setCell_same _ w.heap.size 2 _ _ (.int .i64 lz) (heap_setCell_same _ w.heap.size 1 _ _ (.int .i64 ly) (heap_setCell_same _ w.heap.size 0 _ _ (.int .i64 lx) hz)))))
  simp at hz'
  have Hz' := Lib.hid hz'
  clear hb2 hB3 hz2 hz zl hz'
  go_wp2
  have yl := fun j => cell_of_row _ w.heap.size j _ _ _ Hz'.out
  exact bodyPost_ret (v := .tuple #[.agg #[.int .i64 lx, .int .i64 ly, .int .i64 lz, .int .i64 ux, .int .i64 uy, .int .i64 uz], .int .i64 0]) (by simp [results, Tryz.results86, go_sem, yl]) rfl ⟨rfl, hB'⟩
end Go.Proofs
end

section
/- Slides: pure facts on ways, boxes and first hits. -/
namespace Go.Proofs
open Go.RowKit
set_option maxHeartbeats 8000000
set_option maxRecDepth 1000000
/-- The shift after k steps along a direction. -/
def wayC (d : Cel) (k : Int) : Cel := (k * d.1 / d.2.2, k * d.2.1 / d.2.2, k)
/-- The cells that a shifted part and a base have in common, in the part's order. -/
def hitL (part base : List Cel) (s : Cel) : List Cel := (part.map (shiftC s)).filter fun c => decide (c ∈ base)
theorem hitL_nil {part base : List Cel} {s : Cel} : hitL part base s = [] ↔ ∀ c ∈ part, shiftC s c ∉ base := by
  unfold hitL
  rw [List.filter_eq_nil_iff]
  constructor
  · intro h c hc hb
    exact h _ (List.mem_map.2 ⟨c, hc, rfl⟩) (decide_eq_true hb)
  · intro h x hx
    obtain ⟨c, hc, rfl⟩ := List.mem_map.1 hx
    simp [h c hc]
theorem hitL_head {part base : List Cel} {s : Cel} {i : Nat} {c : Cel} (hc : part[i]? = some c) (hb : shiftC s c ∈ base) (hno : ∀ j d, j < i → part[j]? = some d → shiftC s d ∉ base) : (hitL part base s).head? = some (shiftC s c) := by
  unfold hitL
  obtain ⟨hi, he⟩ := List.getElem?_eq_some_iff.1 hc
  have h1 : part = part.take i ++ c :: part.drop (i + 1) := by
    rw [← he, List.getElem_cons_drop, List.take_append_drop]
  rw [h1, List.map_append, List.filter_append]
  have h2 : ((part.take i).map (shiftC s)).filter (fun c => decide (c ∈ base)) = [] := by
    rw [List.filter_eq_nil_iff]
    intro x hx
    obtain ⟨d, hd, rfl⟩ := List.mem_map.1 hx
    obtain ⟨j, hj⟩ := List.mem_iff_getElem?.1 hd
    have hji : j < i := by
      have := (List.getElem?_eq_some_iff.1 hj).1
      rw [List.length_take] at this
      omega
    rw [List.getElem?_take_of_lt hji] at hj
    simp [hno j d hji hj]
  rw [h2, List.map_cons, List.nil_append, List.filter_cons_of_pos (by simpa using hb)]
  rfl
/-- A box has all cells of a list. -/
def InBox (l : List Cel) (b : Cel × Cel) : Prop := ∀ c ∈ l, (b.1.1 ≤ c.1 ∧ c.1 ≤ b.2.1) ∧ (b.1.2.1 ≤ c.2.1 ∧ c.2.1 ≤ b.2.2.1) ∧ (b.1.2.2 ≤ c.2.2 ∧ c.2.2 ≤ b.2.2.2)
/-- The shifts with which two boxes overlap. -/
def nearBox (bb bp : Cel × Cel) : Cel × Cel := ((bb.1.1 - bp.2.1, bb.1.2.1 - bp.2.2.1, bb.1.2.2 - bp.2.2.2), (bb.2.1 - bp.1.1, bb.2.2.1 - bp.1.2.1, bb.2.2.2 - bp.1.2.2))
def isInB (b : Cel × Cel) (s : Cel) : Prop := (b.1.1 ≤ s.1 ∧ s.1 ≤ b.2.1) ∧ (b.1.2.1 ≤ s.2.1 ∧ s.2.1 ≤ b.2.2.1) ∧ (b.1.2.2 ≤ s.2.2 ∧ s.2.2 ≤ b.2.2.2)
theorem far_none {part base : List Cel} {bb bp : Cel × Cel} (hb : InBox base bb) (hp : InBox part bp) {s : Cel} (h : ¬ isInB (nearBox bb bp) s) : hitL part base s = [] :=
  hitL_nil.2 fun c hc hcb => h (by
    have h1 := hp c hc
    have h2 := hb _ hcb
    unfold shiftC at h2
    unfold isInB nearBox
    dsimp only at h2 ⊢
    omega)
/-- What a search along a way tells. -/
def StopS (part base : List Cel) (d : Cel) (k : Int) (x : Cel) (hits : Bool) : Prop :=
  (hits = true ∧ 0 ≤ k ∧ (hitL part base (wayC d k)).head? = some x ∧ ∀ j, 0 ≤ j → j < k → hitL part base (wayC d j) = []) ∨
  (hits = false ∧ k = 0 ∧ x = (0, 0, 0) ∧ ∀ j, 0 ≤ j → hitL part base (wayC d j) = [])
theorem bnd_in' : ∀ (l : List Cel) (B : Cel × Cel) (c : Cel), (c ∈ l ∨ ((B.1.1 ≤ c.1 ∧ c.1 ≤ B.2.1) ∧ (B.1.2.1 ≤ c.2.1 ∧ c.2.1 ≤ B.2.2.1) ∧ (B.1.2.2 ≤ c.2.2 ∧ c.2.2 ≤ B.2.2.2))) →
    ((l.foldl bndS B).1.1 ≤ c.1 ∧ c.1 ≤ (l.foldl bndS B).2.1) ∧ ((l.foldl bndS B).1.2.1 ≤ c.2.1 ∧ c.2.1 ≤ (l.foldl bndS B).2.2.1) ∧ ((l.foldl bndS B).1.2.2 ≤ c.2.2 ∧ c.2.2 ≤ (l.foldl bndS B).2.2.2)
  | [], _, c, h => by
    rcases h with h | h
    · cases h
    · exact h
  | x :: l, B, c, h => by
    refine bnd_in' l (bndS B x) c ?_
    rcases h with h | h
    · rcases List.mem_cons.1 h with rfl | h
      · right
        unfold bndS
        dsimp only
        omega
      · exact .inl h
    · right
      unfold bndS
      dsimp only
      omega
theorem box_in {l : List Cel} {h : Cel} (hh : l[0]? = some h) {m : Int} (hn : ∀ c ∈ l, Near c m) : Near (bndK h l l.length).1 m ∧ Near (bndK h l l.length).2 m ∧ InBox l (bndK h l l.length) := by
  cases l with
  | nil => cases hh
  | cons x u =>
    obtain rfl : x = h := by simpa using hh
    have h1 : bndK x (x :: u) (x :: u).length = (x :: u).foldl bndS (x, x) := by unfold bndK; rw [List.take_length]
    have hx := hn x (List.mem_cons_self ..)
    have h2 := bnd_near (b := m) (x :: u) (x, x) ⟨hx, hx⟩ hn
    rw [h1]
    exact ⟨h2.1, h2.2, fun c hc => bnd_in' (x :: u) (x, x) c (.inl hc)⟩
/-- Go's quotient, rounded down, is Lean's. -/
theorem floor_eq {a b : Int} (hb : 0 < b) : (if Int.tmod a b < 0 then Int.tdiv a b - 1 else Int.tdiv a b) = a / b := by
  have h1 := Int.mul_tdiv_add_tmod a b
  have k1 := Int.tmod_lt_of_pos a hb
  have k2 := Int.lt_tmod_of_pos a hb
  split
  · refine ((Int.ediv_eq_iff_of_pos hb).2 ⟨?_, ?_⟩).symm
    · rw [Int.sub_mul, Int.mul_comm (a.tdiv b) b]
      omega
    · rw [Int.sub_mul, Int.mul_comm (a.tdiv b) b]
      omega
  · refine ((Int.ediv_eq_iff_of_pos hb).2 ⟨?_, ?_⟩).symm
    · rw [Int.mul_comm (a.tdiv b) b]
      omega
    · rw [Int.mul_comm (a.tdiv b) b]
      omega
end Go.Proofs
end

section
/- bite: changed, place, checkSome, checkShifts, CheckBite, checkAt, Place. -/
namespace Go.Proofs
open Go.Shelf Go.RowKit Go.Lib Go.Sort
set_option maxHeartbeats 16000000
set_option maxRecDepth 1000000
theorem bitChanged_ok (l : List Cel) (v : Value) (q : Nat) (s : Cel) (w : World) (hl : Sl w v l) (hn : l.length ≤ 4096) (hq : w.heap[q]? = some (.cells #[.int .i64 s.1, .int .i64 s.2.1, .int .i64 s.2.2] 34 (0, 0))) (hnear : ∀ c ∈ l, Near c 4000) (hs : Near s 4000) :
    Calls Tryz.prog 71 #[v, moverV q] w fun e w' => ∃ B, e = .returned (.slice (some ⟨B, 0, none⟩) l.length l.length) ∧ w.heap.size ≤ B ∧ Filled w' B l.length 34 (l.map (shiftC s)) ∧ Below w.heap.size w w' := by
  obtain ⟨j0, hj, hy0, hy1, hy2⟩ := info_parts (P := Tryz.prog) (e := 34) (z := .agg #[.int .i64 0, .int .i64 0, .int .i64 0]) (size := 3) (bytes := 24) (by kernel_rfl)
  have hql : q < w.heap.size := (Array.getElem?_eq_some_iff.1 hq).1
  have hcell : ∀ c ∈ l, ∀ W, Below w.heap.size w W → Calls Tryz.prog 90 #[.agg #[.int .i64 c.1, .int .i64 c.2.1, .int .i64 c.2.2], .pointer (some ⟨q, 0, none⟩)] W fun e W' => e = .returned (.agg #[.int .i64 (c.1 + s.1), .int .i64 (c.2.1 + s.2.1), .int .i64 (c.2.2 + s.2.2)]) ∧ Below W.heap.size W W' := fun c hc W hW => by
    have h := hnear c hc
    unfold Near at h hs
    exact bitMover_ok c.1 c.2.1 c.2.2 s.1 s.2.1 s.2.2 q W ((hW.block q hql).trans hq) (by omega) (by omega) (by omega)
  have hml : (l.map (shiftC s)).length = l.length := List.length_map _
  obtain ⟨m, hmm⟩ : ∃ m, m = l.map (shiftC s) := ⟨_, rfl⟩
  have hat : ∀ (k : Nat) (x y z : Int), l[k]? = some (x, y, z) → m[k]? = some (x + s.1, y + s.2.1, z + s.2.2) := fun k x y z h => by rw [hmm, List.getElem?_map, h]; rfl
  rw [← hmm] at hml ⊢
  clear hmm hq hs hnear
  unfold moverV
  obtain ⟨A, cap, rfl⟩ := hl.form
  go_enter Tryz.func71, Tryz.ntmps71
  go_wp2_with (at_make; refine wpList_make_full _ rfl _ _ 22 rfl w.heap.size 34 j0 _ 3 Tryz.underlying22 hj hy0 hy1 .i64 .i64 _ _ l.length rfl rfl rfl rfl ?c1 ?c2 ?c3 ?_)
  case c1 => rw [hy2]; omega
  case c2 => unfold maxLen; omega
  case c3 => exact Nat.le_refl _
  intro w1 hown hgrow
  have hF1 := made_filled rfl hown m
  have hB1 : Below w.heap.size w w1 := (Below.refl _ _).grown hgrow (Nat.le_refl _) (fun k hk => by cases hk)
  clear hown hgrow
  go_wp2
  go_loopw [13] (fun i wr => ∃ k : Nat, k ≤ l.length ∧ i = .int .i64 k ∧ Filled wr w.heap.size l.length 34 (m.take k) ∧ w.heap.size < wr.heap.size ∧ Below w.heap.size w wr) (fun i _ => l.length - (intOf i).toNat)
  case atStart => exact ⟨0, Nat.zero_le _, rfl, hF1.1, hF1.2, hB1⟩
  case round =>
    obtain ⟨k, hk, rfl, hF, hlt, hBel⟩ := hrel
    rcases Nat.lt_or_eq_of_le hk with hkn | rfl
    · obtain ⟨b, o, x, y, z, rfl, -, hb, hc, r0, r1, r2⟩ := (hl.below hBel).cells hkn
      have hmk := hat k _ _ _ hc
      have hBa := hBel.alloc (Nat.le_of_lt hlt) (.cells #[.int .i64 x, .int .i64 y, .int .i64 z] 34)
      have hcall := hcell (x, y, z) (List.mem_of_getElem? hc) _ hBa
      dsimp only at hcall
      have hi0 : (0 : Int) ≤ k := by omega
      have hi1 : (k : Int) < l.length := by omega
      have hFa := hF.below ((Below.refl wr.heap.size wr).alloc (Nat.le_refl _) (.cells #[.int .i64 x, .int .i64 y, .int .i64 z] 34)) hlt
      have hlt2 : w.heap.size < (wr.alloc (.cells #[.int .i64 x, .int .i64 y, .int .i64 z] 34)).heap.size := by simp; omega
      clear hB1 hF1 hl hcell hat hc hml hF hBel
      go_wp2_with (go_at_call 90; refine hcall.mono ?_; rintro e w2 ⟨rfl, hB2⟩; have hF2 := hFa.below hB2 hlt2; have fz := hF2.fz; obtain ⟨v0, o0⟩ := hF2.old (j := k * 3) (by omega); obtain ⟨v1, o1⟩ := hF2.old (j := k * 3 + 1) (by omega); obtain ⟨v2, o2⟩ := hF2.old (j := k * 3 + 2) (by omega))
      have hsz := hB2.size
      refine ⟨⟨k + 1, hkn, rfl, hF2.put3 hkn hmk, by simp [World.setCell]; omega, below3' (hBa.trans (hB2.mono (Nat.le_of_lt hlt2))) k _ _ _⟩, ?_⟩
      simp [intOf]; omega
    · clear hl hF1 hB1 hcell hat
      rw [List.take_of_length_le (by rw [hml]; exact Nat.le_refl _)] at hF
      have HF := Lib.hid hF
      clear hF
      go_wp2
      go_ret
      exact ⟨_, rfl, Nat.le_refl _, HF.out, hBel⟩
theorem bitWay {C G : World → Prop} {Goal : Prop} (rest : ∀ W, C W → G W) (h : (∀ W, C W → G W) → Goal) : Goal := h rest
theorem bitWays {C G : Nat → World → Prop} {Goal : Prop} (rest : ∀ B W, C B W → G B W) (h : (∀ B W, C B W → G B W) → Goal) : Goal := h rest
/-- A bite's three slices in one value. -/
def bitV (vu vl vp : Value) : Value := .agg #[vu, vl, vp]
theorem three_cellsB {V : World} {B : Nat} {c0 c1 c2 : Value} {T : TypeId} (h : V.heap[B]? = some (.cells #[c0, c1, c2] T (0, 0))) :
    V.cell? ⟨B, 0, none⟩ = some c0 ∧ V.cell? ⟨B, 1, none⟩ = some c1 ∧ V.cell? ⟨B, 2, none⟩ = some c2 := by
  have zl := fun j => cell_of_row V B j _ _ _ h
  have z0 := zl 0
  have z1 := zl 1
  have z2 := zl 2
  simp at z0 z1 z2
  exact ⟨z0, z1, z2⟩
theorem bitPlace_ok (l p : List Cel) (vu vl vp : Value) (k : Nat) (s : Cel) (w : World) (hu : ∃ (A : Option Addr) (n cap : Nat), vu = .slice A n cap) (hl : Sl w vl l) (hp : Sl w vp p) (hn : l.length ≤ 4096) (hc : p[k]? = some s) (_hlp : p.length ≤ 1000000) (hnear : ∀ c ∈ l, Near c 4000) (hs : Near s 4000) :
    Calls Tryz.prog 31 #[bitV vu vl vp, .int .i64 k] w fun e w' => ∃ B, e = .returned (.slice (some ⟨B, 0, none⟩) l.length l.length) ∧ w.heap.size ≤ B ∧ Filled w' B l.length 34 (l.map (shiftC s)) ∧ Below w.heap.size w w' := by
  obtain ⟨sx, sy, sz⟩ := s
  obtain ⟨UA, un, uc, rfl⟩ := hu
  have hkp : k < p.length := (List.getElem?_eq_some_iff.1 hc).1
  obtain ⟨A, cap, rfl⟩ := hl.form
  obtain ⟨P, pcap, rfl⟩ := hp.form
  obtain ⟨b, o, x, y, z, rfl, -, hb, hc', r0, r1, r2⟩ := hp.cells hkp
  obtain ⟨rfl, rfl, rfl⟩ : sx = x ∧ sy = y ∧ sz = z := by
    have := Option.some.inj (hc.symm.trans hc')
    simp only [Prod.mk.injEq] at this
    exact this
  unfold bitV
  obtain ⟨W0, hW⟩ : ∃ W0, W0 = w.alloc (.cells #[.slice UA un uc, .slice A l.length cap, .slice (some ⟨b, o, none⟩) p.length pcap] 31) := ⟨_, rfl⟩
  have hB0 : Below w.heap.size w W0 := by subst hW; exact (Below.refl _ _).alloc (Nat.le_refl _) _
  have hrow : W0.heap[w.heap.size]? = some (.cells #[.slice UA un uc, .slice A l.length cap, .slice (some ⟨b, o, none⟩) p.length pcap] 31 (0, 0)) := by subst hW; exact heap_alloc_new w _
  have hlt : w.heap.size < W0.heap.size := (Array.getElem?_eq_some_iff.1 hrow).1
  have kk : ∀ V, Below W0.heap.size W0 V → V.cell? ⟨w.heap.size, 1, none⟩ = some (.slice A l.length cap) ∧ V.cell? ⟨w.heap.size, 2, none⟩ = some (.slice (some ⟨b, o, none⟩) p.length pcap) ∧ V.cell? ⟨b, o + k * 3, none⟩ = some (.int .i64 sx) ∧ V.cell? ⟨b, o + k * 3 + 1, none⟩ = some (.int .i64 sy) ∧ V.cell? ⟨b, o + k * 3 + 2, none⟩ = some (.int .i64 sz) := fun V h => by
    obtain ⟨-, z1, z2⟩ := three_cellsB ((h.block _ hlt).trans hrow)
    have hV := hB0.trans (h.mono hB0.size)
    exact ⟨z1, z2, (hV.cell (p := ⟨b, _, none⟩) hb).trans r0, (hV.cell (p := ⟨b, _, none⟩) hb).trans r1, (hV.cell (p := ⟨b, _, none⟩) hb).trans r2⟩
  have hi0 : (0 : Int) ≤ k := by omega
  have hi1 : (k : Int) < p.length := by omega
  have hX : Below W0.heap.size W0 W0.drew := (Below.refl _ _).drew
  have hky := kk _ hX
  have k1 := fun W => bitShift_ok sx sy sz W
  have k2 := fun W (h : Below W0.heap.size W0 W) => bitChanged_ok l (.slice A l.length cap) W.heap.size (sx, sy, sz) (W.alloc (.cells #[.int .i64 sx, .int .i64 sy, .int .i64 sz] 34)) (hl.below ((hB0.trans (h.mono hB0.size)).alloc (hB0.trans (h.mono hB0.size)).size _)) hn (heap_alloc_new W _) hnear hs
  clear hl hp hnear hs hc hc' r0 r1 r2
  go_enter Tryz.func31, Tryz.ntmps31
  go_wp2_with fail
  rw [← hW]
  clear hW
  go_region_held3 (fun w' => w'.cell? ⟨w.heap.size, 1, none⟩ = some (.slice A l.length cap) ∧ w'.cell? ⟨w.heap.size, 2, none⟩ = some (.slice (some ⟨b, o, none⟩) p.length pcap) ∧ w'.cell? ⟨b, o + k * 3, none⟩ = some (.int .i64 sx) ∧ w'.cell? ⟨b, o + k * 3 + 1, none⟩ = some (.int .i64 sy) ∧ w'.cell? ⟨b, o + k * 3 + 2, none⟩ = some (.int .i64 sz)) (first | exact hky | go_keep)
    (first
      | (go_at_call 72; refine (k1 _).mono ?_; rintro e w4 ⟨rfl, rfl⟩; have hX4 := hX; have q := k2 _ hX; have hX := hX.alloc hX.size (.cells #[.int .i64 sx, .int .i64 sy, .int .i64 sz] 34); have hky := kk _ hX)
      | (go_at_call 71; refine q.mono ?_; rintro e w5 ⟨B, rfl, hB, hF, hB5⟩; have hX := hX.trans (hB5.mono hX.size); have hky := kk _ hX))
  rename_i hHeld
  clear hHeld
  go_wp2
  go_ret
  refine ⟨B, rfl, ?_, hF, hB0.trans (hX.mono hB0.size)⟩
  have := hX4.size
  have h2 : (W0.drew).heap.size = W0.heap.size := rfl
  simp at hB
  omega
theorem bitSome_ok (l : List Cel) (v : Value) (w : World) (hl : Sl w v l) (hc : chkI l = 0) (h0 : 0 < l.length) :
    Calls Tryz.prog 65 #[v] w fun e w' => e = .returned (.int .i64 0) ∧ Below w.heap.size w w' := by
  have hk := gridCheckG l v w hl (by have := (chkI_zero.1 hc).1; unfold maxLen; omega)
  rw [hc] at hk
  have n0 : ((l.length : Int) == 0) = false := by rw [beq_eq_false_iff_ne]; omega
  obtain ⟨A, cap, rfl⟩ := hl.form
  clear hl hc h0
  go_enter Tryz.func65, Tryz.ntmps65
  go_wp2_with (go_at_call 33; refine hk.mono ?_; rintro e w1 ⟨rfl, hB1⟩)
  go_ret
  exact ⟨rfl, hB1⟩
/-- The box of cells, shifted, lies where the shifted cells lie. -/
theorem bnd_shift {b : Int} {s : Cel} : ∀ (l : List Cel) (B : Cel × Cel), (Near (shiftC s B.1) b ∧ Near (shiftC s B.2) b) → (∀ c ∈ l, Near (shiftC s c) b) → Near (shiftC s (l.foldl bndS B).1) b ∧ Near (shiftC s (l.foldl bndS B).2) b
  | [], _, h, _ => h
  | c :: l, B, h, hl => by
    refine bnd_shift l (bndS B c) ?_ (fun x hx => hl x (List.mem_cons_of_mem _ hx))
    have hc := hl c (List.mem_cons_self ..)
    unfold Near shiftC at *
    unfold bndS
    dsimp only at *
    omega
theorem box_shift {l : List Cel} {h s : Cel} {b : Int} (hh : l[0]? = some h) (hl : ∀ c ∈ l, Near (shiftC s c) b) : Near (shiftC s (bndK h l l.length).1) b ∧ Near (shiftC s (bndK h l l.length).2) b := by
  have hm := List.mem_of_getElem? hh
  unfold bndK
  rw [List.take_length]
  exact bnd_shift l (h, h) ⟨hl h hm, hl h hm⟩ hl
end Go.Proofs
end
