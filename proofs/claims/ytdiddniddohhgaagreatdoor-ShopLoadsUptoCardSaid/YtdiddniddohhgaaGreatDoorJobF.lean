/- Jobs: the search for the best order: an order that is cut off, and one that is full. -/
import Derived.Test.YtdiddniddohhgaaGreatDoorJobE
import Derived.Lib.LazyBuf
namespace Go.Proofs
open Go.RowKit
set_option maxHeartbeats 16000000
set_option maxRecDepth 1000000
theorem neqI_nil (w : World) : (binOp .neq 23 (.slice none 0 0) (.slice none 0 0)).run Tryz.prog w = .ok (.bool false) w := Go.run_neq_slice_nil w _ _ none 0 0 Tryz.underlying23
theorem neqI_some (w : World) (a : Addr) (n c : Nat) : (binOp .neq 23 (.slice (some a) n c) (.slice none 0 0)).run Tryz.prog w = .ok (.bool true) w := Go.run_neq_slice_nil w _ _ (some a) n c Tryz.underlying23
/-- What holds where the search is called. -/
structure PreB (js : List JobT) (m : Nat) (w1 : World) (B2 bb bl bj bx : Nat) (vl : Value) (order : List Nat) (free : List Int) (s : StT) (vo vf vb : Value) (w : World) : Prop where
  ev : Ev w1 B2 bb bl bj bx vl w
  st : StB B2 bb bl w vb s
  oo : OwnI 3 w B2 vo (ints order)
  of_ : OwnI 3 w B2 vf free
  dof : ∀ g, vo.ownBlock = some g → vf.ownBlock ≠ some g
  dob : ∀ g, vo.ownBlock = some g → vb.ownBlock ≠ some g
  lb : ∀ g, vb.ownBlock = some g → B2 ≤ g ∧ g < w.heap.size
  fr : FreeOk m (24480 * order.length) free
structure PostB (js : List JobT) (w1 : World) (B2 bb bl : Nat) (order : List Nat) (s' : StT) (vo vb : Value) (w : World) (e : Ending) (w' : World) : Prop where
  e : e = .returned (.tuple #[])
  fr : FrX w1.heap.size bb bl vo w w'
  oo : OwnI 3 w' B2 vo (ints order)
  st : ∃ vb', StB B2 bb bl w' vb' s' ∧ (vb' = vb ∨ ∀ g, vb'.ownBlock = some g → w.heap.size ≤ g ∧ g < w'.heap.size)
theorem last_cell {w : World} {B : Nat} {vf : Value} {free : List Int} (h : OwnI 3 w B vf free) (h0 : 0 < free.length) : ∃ g n1 cap, free.length = n1 + 1 ∧ vf = .slice (some ⟨g, 0, none⟩) (n1 + 1) cap ∧ w.cell? ⟨g, n1, none⟩ = some (.int .i64 (lastI free)) ∧ g < w.heap.size := by
  rcases h.form with ⟨-, h1⟩ | ⟨g, cap, hv, _, hg, hr⟩
  · rw [h1] at h0; exact absurd h0 (Nat.not_lt_zero _)
  · obtain ⟨n1, hn⟩ : ∃ n1, free.length = n1 + 1 := ⟨free.length - 1, by omega⟩
    refine ⟨g, n1, cap, hn, by rw [hv, hn], ?_, hg⟩
    obtain ⟨x, hx⟩ : ∃ x, free[n1]? = some x := ⟨_, List.getElem?_eq_getElem (by omega)⟩
    have := hr n1 x hx
    rw [Nat.zero_add] at this
    rw [this]
    unfold lastI
    rw [hn, Nat.add_sub_cancel, at0_some hx]
theorem wrapsN {n : Nat} (h : n ≤ 100000) : wrap64 (n : Int) = (n : Int) ∧ IntKind.i64.wrap (n : Int) = (n : Int) := ⟨wrap64_small (by omega), wrap_small (by omega)⟩
theorem ext_cut (js : List JobT) (m : Nat) (w1 : World) (B2 bb bl bj bx : Nat) (vl : Value) (f : Nat) (order : List Nat) (free : List Int) (s : StT) (vo vf vb : Value) (w : World) (hp : PreB js m w1 B2 bb bl bj bx vl order free s vo vf vb w) (hm : 0 < m ∧ m ≤ 8) (hc : cutB s (lastI free) = true) :
    Calls Tryz.prog 67 #[vo, vf, ptrN bb, ptrN bl, ptrN bj, ptrN bx] w (PostB js w1 B2 bb bl order (expl js f order free s) vo vb w) := by
  rw [expl_cut js f order free s hc]
  obtain ⟨g, n1, cap, hn, rfl, hcl, hg⟩ := last_cell hp.of_ (by rw [hp.fr.1]; exact hm.1)
  have hn8 : n1 < 8 := by have := hp.fr.1; omega
  have hpost : PostB js w1 B2 bb bl order s vo vb w (.returned (.tuple #[])) w := ⟨rfl, .refl _ _ _ _ _, hp.oo, vb, hp.st, .inl rfl⟩
  obtain ⟨least, hb, hl, hs⟩ := hp.st
  cases s with
  | none => cases hc
  | some x =>
    obtain ⟨ho, hx0, rfl⟩ := hs
    have hle : x.2 ≤ lastI free := of_decide_eq_true hc
    rcases ho.form with ⟨-, h0⟩ | ⟨gb, cb, rfl, -, hgb, -⟩
    · exact absurd (List.map_eq_nil_iff.1 h0) hx0
    have hbc : w.cell? ⟨bb, 0, none⟩ = some (.slice (some ⟨gb, 0, none⟩) (ints x.1).length cb) := hb.cell (by rfl)
    have hlc : w.cell? ⟨bl, 0, none⟩ = some (.int .i64 x.2) := hl.cell (by rfl)
    have hq1 := neqI_some
    generalize lastI free = el at hcl hle
    have hi0 : (0 : Int) ≤ n1 := by omega
    have hi1 : (n1 : Int) < n1 + 1 := by omega
    obtain ⟨wn1, wn2⟩ := wrapsN (n := n1) (by omega)
    have HP := Lib.hid hpost
    clear hpost hp hn hb hl ho hc
    unfold ptrN
    go_enter Tryz.func67, Tryz.ntmps67
    go_wp2_with fail
    exact bodyPost_ret (results_none rfl _ _ _) rfl HP.out
theorem ext_full (js : List JobT) (m : Nat) (w1 : World) (B2 bb bl bj bx : Nat) (vl : Value) (f : Nat) (order : List Nat) (free : List Int) (s : StT) (vo vf vb : Value) (w : World) (hx : Bx w1.heap.size B2 bb bl bj bx) (hp : PreB js m w1 B2 bb bl bj bx vl order free s vo vf vb w) (hm : 0 < m ∧ m ≤ 8) (hc : cutB s (lastI free) = false) (hf : order.length = js.length) (hj : SlJ w1 vl js) (h0 : 0 < js.length ∧ js.length ≤ 32) :
    Calls Tryz.prog 67 #[vo, vf, ptrN bb, ptrN bl, ptrN bj, ptrN bx] w (PostB js w1 B2 bb bl order (expl js f order free s) vo vb w) := by
  rw [expl_full js f order free s hc hf]
  obtain ⟨g, n1, cap, hn, rfl, hcl, hg⟩ := last_cell hp.of_ (by rw [hp.fr.1]; exact hm.1)
  have hn8 : n1 < 8 := by have := hp.fr.1; omega
  have kC := cloneI_ok (ints order) vo w hp.oo.sl (by unfold ints; rw [List.length_map]; omega)
  have hol : (ints order).length = js.length := by unfold ints; rw [List.length_map]; exact hf
  have hil : order ≠ [] := fun e => by rw [e] at hf; simp at hf; omega
  obtain ⟨Ao, co, rfl⟩ := hp.oo.sl.form
  obtain ⟨Al, cl, rfl⟩ := hj.form
  rw [hol] at kC
  have hlj : w.cell? ⟨bj, 0, none⟩ = some (.slice Al js.length cl) := hp.ev.lj.cell (by rfl)
  have hp' := hp
  obtain ⟨least, hb, hl, hs⟩ := hp'.st
  have hbl := hb.lt
  have hll := hl.lt
  have hlc : w.cell? ⟨bl, 0, none⟩ = some (.int .i64 least) := hl.cell (by rfl)
  have hbc : w.cell? ⟨bb, 0, none⟩ = some vb := hb.cell (by rfl)
  have hi0 : (0 : Int) ≤ n1 := by omega
  have hi1 : (n1 : Int) < n1 + 1 := by omega
  have hn9 : n1 ≤ 100000 := by omega
  have hfin : ∀ (u : Value) (w2 : World), OwnI 3 w2 w.heap.size u (ints order) → Below w.heap.size w w2 → PostB js w1 B2 bb bl order (some (order, lastI free)) (.slice Ao js.length co) vb w (.returned (.tuple #[])) ((w2.setCell ⟨bb, 0, none⟩ u).setCell ⟨bl, 0, none⟩ (.int .i64 (lastI free))) := fun u w2 hu hw => by
    have hs1 : ∀ g, g ≠ bb → g ≠ bl → ((w2.setCell ⟨bb, 0, none⟩ u).setCell ⟨bl, 0, none⟩ (.int .i64 (lastI free))).heap[g]? = w2.heap[g]? := fun g e1 e2 => (Below.heap_setCell _ ⟨bl, 0, none⟩ _ g e2).trans (Below.heap_setCell _ ⟨bb, 0, none⟩ _ g e1)
    have hsz := hw.size
    have hsB := hp.ev.sz
    have h1 := hx.b1
    have h2 := hx.l1
    have h3 := hx.b2
    have h4 := hx.l2
    have hb1 : Below w1.heap.size w ((w2.setCell ⟨bb, 0, none⟩ u).setCell ⟨bl, 0, none⟩ (.int .i64 (lastI free))) := ((hw.mono hp.ev.be.size).setCell (p := ⟨bb, 0, none⟩) h1 _).setCell (p := ⟨bl, 0, none⟩) h2 _
    refine ⟨rfl, ⟨hb1, fun g hg e1 e2 _ => (hs1 g e1 e2).trans (hw.block g hg)⟩, ?_, u, ⟨lastI free, ?_, ?_, ?_, hil, rfl⟩, .inr fun g e => ?_⟩
    · have ho := hp.oo
      rw [hol] at ho
      refine ho.keepB fun g e => ?_
      have hg := ho.lt g e
      exact (hs1 g (by omega) (by omega)).trans (hw.block g hg.2)
    · exact (((hb.below hw).set 0 u).keep (Below.heap_setCell _ ⟨bl, 0, none⟩ _ bb hx.nbl))
    · exact ((hl.below hw).keep (Below.heap_setCell w2 ⟨bb, 0, none⟩ u bl (Ne.symm hx.nbl))).set 0 _
    · exact (hu.keepB fun g e => hs1 g (by have := (hu.lt g e).1; omega) (by have := (hu.lt g e).1; omega)).lower hp.ev.sz
    · have := hu.lt g e
      refine ⟨this.1, ?_⟩
      have e2 : ((w2.setCell ⟨bb, 0, none⟩ u).setCell ⟨bl, 0, none⟩ (.int .i64 (lastI free))).heap.size = w2.heap.size := by simp [World.setCell]
      omega
  have kb : ∀ w2, Below w.heap.size w w2 → (w2.cell? ⟨bb, 0, none⟩ = some vb ∧ w2.frozen? ⟨bb, 0, none⟩ = false) ∧ w2.cell? ⟨bl, 0, none⟩ = some (.int .i64 least) ∧ w2.frozen? ⟨bl, 0, none⟩ = false := fun w2 h => ⟨⟨(hb.below h).cell (by rfl), (hb.below h).fz 0⟩, (hl.below h).cell (by rfl), (hl.below h).fz 0⟩
  rw [hol]
  have HF := Lib.hid hfin
  have HK := Lib.hid kb
  have nbl := hx.nbl
  cases s with
  | none =>
    subst hs
    have hq1 := neqI_nil
    clear hfin kb hol hp hp' hb hl hn hf hj hc
    generalize lastI free = el at hcl HF
    obtain ⟨wn1, wn2⟩ := wrapsN hn9
    unfold ptrN
    go_enter Tryz.func67, Tryz.ntmps67
    go_wp2_with fail
    refine kC.mono ?_
    rintro e w2 ⟨⟨u, rfl, hu⟩, hw⟩
    obtain ⟨⟨k1, k2⟩, k3, k4⟩ := HK.out w2 hw
    obtain ⟨Au, cu, rfl⟩ := hu.sl.form
    have HR := Lib.hid (HF.out _ w2 hu hw)
    clear hu hw HK HF kC
    go_wp2_with fail
    exact bodyPost_ret (results_none rfl _ _ _) rfl HR.out
  | some x =>
    obtain ⟨ho, hx0, rfl⟩ := hs
    have hld : decide (x.2 ≤ lastI free) = false := hc
    rcases ho.form with ⟨-, h0⟩ | ⟨gb, cb, rfl, -, hgb, -⟩
    · exact absurd (List.map_eq_nil_iff.1 h0) hx0
    have hq1 := neqI_some
    clear hfin kb hol hp hp' hb hl hn hf hj hc ho
    generalize lastI free = el at hcl HF hld
    obtain ⟨wn1, wn2⟩ := wrapsN hn9
    unfold ptrN
    go_enter Tryz.func67, Tryz.ntmps67
    go_wp2_with fail
    refine kC.mono ?_
    rintro e w2 ⟨⟨u, rfl, hu⟩, hw⟩
    obtain ⟨⟨k1, k2⟩, k3, k4⟩ := HK.out w2 hw
    obtain ⟨Au, cu, rfl⟩ := hu.sl.form
    have HR := Lib.hid (HF.out _ w2 hu hw)
    clear hu hw HK HF kC
    go_wp2_with fail
    exact bodyPost_ret (results_none rfl _ _ _) rfl HR.out
end Go.Proofs
