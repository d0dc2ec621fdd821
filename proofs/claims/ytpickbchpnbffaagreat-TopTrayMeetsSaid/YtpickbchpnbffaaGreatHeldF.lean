import Derived.Test.YtpickbchpnbffaaGreatBitE
import Derived.Test.YtpickbchpnbffaaGreatGrP
import Derived.Deep.AppendLies
import Derived.Deep.RegionHeld3
section
/- bite: meetingAt, contacts, Hits, Contacts. -/
namespace Go.Proofs
open Go.RowKit
set_option maxHeartbeats 16000000
set_option maxRecDepth 1000000
theorem bitMeetAt_ok (u l p : List Cel) (vu vl vp : Value) (k : Nat) (s : Cel) (w : World) (h : BitS w vu vl vp u l p) (ok : BiteOk u l p) (hc : p[k]? = some s) :
    Calls Tryz.prog 37 #[bitV vu vl vp, .int .i64 k] w (MeetE u l s w) := by
  obtain ⟨sx, sy, sz⟩ := s
  have hk : k < p.length := (List.getElem?_eq_some_iff.1 hc).1
  have hlp := ok.path.len
  have hns := path_at ok.path hc
  obtain ⟨lu, nu, -⟩ := chkI_zero.1 ok.cu
  have ll := (chkI_zero.1 ok.cl).1
  obtain ⟨su, sl, sp⟩ := h
  obtain ⟨U, uc, rfl⟩ := su.form
  obtain ⟨A, ac, rfl⟩ := sl.form
  obtain ⟨P, pc, rfl⟩ := sp.form
  obtain ⟨b, o, x, y, z, rfl, -, hb, hc', r0, r1, r2⟩ := sp.cells hk
  obtain ⟨rfl, rfl, rfl⟩ : sx = x ∧ sy = y ∧ sz = z := by
    have := Option.some.inj (hc.symm.trans hc')
    simp only [Prod.mk.injEq] at this
    exact this
  unfold bitV MeetE
  obtain ⟨W0, hW⟩ : ∃ W0, W0 = (w.alloc (.cells #[.slice U u.length uc, .slice A l.length ac, .slice (some ⟨b, o, none⟩) p.length pc] 31)).alloc (.cells #[.slice none 0 0, .slice none 0 0] 61) := ⟨_, rfl⟩
  have hB0 : Below w.heap.size w W0 := by subst hW; exact ((Below.refl _ _).alloc (Nat.le_refl _) _).alloc (by simp) _
  have hsz : W0.heap.size = w.heap.size + 1 + 1 := by subst hW; simp
  have hrow : W0.heap[w.heap.size]? = some (.cells #[.slice U u.length uc, .slice A l.length ac, .slice (some ⟨b, o, none⟩) p.length pc] 31 (0, 0)) := by
    rw [hW, Below.heap_alloc _ _ _ (by simp)]
    exact heap_alloc_new w _
  have hres : W0.heap[w.heap.size + 1]? = some (.cells #[.slice none 0 0, .slice none 0 0] 61 (0, 0)) := by
    have := heap_alloc_new (w.alloc (.cells #[.slice U u.length uc, .slice A l.length ac, .slice (some ⟨b, o, none⟩) p.length pc] 31)) (.cells #[.slice none 0 0, .slice none 0 0] 61)
    rw [← hW] at this
    simpa using this
  have kk : ∀ V, Below W0.heap.size W0 V → V.cell? ⟨w.heap.size, 0, none⟩ = some (.slice U u.length uc) ∧ V.cell? ⟨w.heap.size, 1, none⟩ = some (.slice A l.length ac) ∧ V.cell? ⟨w.heap.size, 2, none⟩ = some (.slice (some ⟨b, o, none⟩) p.length pc) ∧ V.cell? ⟨b, o + k * 3, none⟩ = some (.int .i64 sx) ∧ V.cell? ⟨b, o + k * 3 + 1, none⟩ = some (.int .i64 sy) ∧ V.cell? ⟨b, o + k * 3 + 2, none⟩ = some (.int .i64 sz) := fun V h => by
    obtain ⟨z0, z1, z2⟩ := three_cellsB ((h.block _ (by omega)).trans hrow)
    have hV := hB0.trans (h.mono hB0.size)
    exact ⟨z0, z1, z2, (hV.cell (p := ⟨b, _, none⟩) hb).trans r0, (hV.cell (p := ⟨b, _, none⟩) hb).trans r1, (hV.cell (p := ⟨b, _, none⟩) hb).trans r2⟩
  have hi0 : (0 : Int) ≤ k := by omega
  have hi1 : (k : Int) < p.length := by omega
  have hX : Below W0.heap.size W0 W0.drew := (Below.refl _ _).drew
  have hky := kk _ hX
  have q1 := fun W (h : Below W0.heap.size W0 W) => bitSetOf_ok l (.slice A l.length ac) W (sl.below (hB0.trans (h.mono hB0.size))) (by unfold maxLen; omega)
  have q2 := fun W m (h : Below W0.heap.size W0 W) (hm : CSet W m (setL l)) => bitMeet_ok u l (.slice U u.length uc) m (sx, sy, sz) W (su.below (hB0.trans (h.mono hB0.size))) hm lu nu hns
  unfold MeetE cellV at q2
  dsimp only at q2
  have ne1 : w.heap.size + 1 ≠ w.heap.size := by omega
  have ne2 : b ≠ w.heap.size + 1 := by omega
  have ne3 : w.heap.size + 1 ≠ b := by omega
  clear su sl sp hc hc' r0 r1 r2 ok
  go_enter Tryz.func37, Tryz.ntmps37
  go_wp2_with fail
  rw [← hW]
  clear hW
  go_region_held3 (fun w' => w'.cell? ⟨w.heap.size, 0, none⟩ = some (.slice U u.length uc) ∧ w'.cell? ⟨w.heap.size, 1, none⟩ = some (.slice A l.length ac) ∧ w'.cell? ⟨w.heap.size, 2, none⟩ = some (.slice (some ⟨b, o, none⟩) p.length pc) ∧ w'.cell? ⟨b, o + k * 3, none⟩ = some (.int .i64 sx) ∧ w'.cell? ⟨b, o + k * 3 + 1, none⟩ = some (.int .i64 sy) ∧ w'.cell? ⟨b, o + k * 3 + 2, none⟩ = some (.int .i64 sz)) (first | exact hky | go_keep)
    (first
      | (go_at_call 69; refine (q1 _ hX).mono ?_; rintro e w4 ⟨m, rfl, hm, hset, hB4⟩; replace hX := hX.trans (hB4.mono hX.size); have hky := kk _ hX)
      | (go_at_call 70; refine (q2 _ _ hX hset).mono ?_; rintro e w5 ⟨A1, A2, c1, c2, rfl, hS1, hS2, hB5⟩; have hX5 := hX.trans (hB5.mono hX.size); have hky := kk _ hX5; have hres5 := (hX5.block _ (by omega)).trans hres; obtain ⟨⟨z0, z1⟩, z2, z3⟩ := two_cellsB hres5))
  rename_i hHeld
  clear hHeld
  have hF : ((w5.setCell ⟨w.heap.size + 1, 0, none⟩ (.slice A1 (hitB u l (sx, sy, sz)).length c1)).setCell ⟨w.heap.size + 1, 1, none⟩ (.slice A2 (conM u l (sx, sy, sz)).length c2)).heap[w.heap.size + 1]? = some (.cells #[.slice A1 (hitB u l (sx, sy, sz)).length c1, .slice A2 (conM u l (sx, sy, sz)).length c2] 61 (0, 0)) := by
    have := heap_setCell_same _ (w.heap.size + 1) 1 _ _ (.slice A2 (conM u l (sx, sy, sz)).length c2) (heap_setCell_same _ (w.heap.size + 1) 0 _ _ (.slice A1 (hitB u l (sx, sy, sz)).length c1) hres5)
    simpa using this
  have HF := Lib.hid hF
  have HX := Lib.hid hX5
  have hs4 := hX.size
  have hs5 := hB5.size
  have H1 := Lib.hid hS1
  have H2 := Lib.hid hS2
  clear hF hky z0 z1 z2 z3 hres5 hX5 hX hS1 hS2
  go_wp2
  refine bodyPost_ret (results_cell_row rfl _ _ _ 61 #[.slice A1 (hitB u l (sx, sy, sz)).length c1, .slice A2 (conM u l (sx, sy, sz)).length c2] (0, 0) _ rfl HF.out Tryz.underlying61 rfl (by kernel_rfl)) rfl ?_
  have hsm : ∀ k, k ≠ w.heap.size + 1 → ((w5.setCell ⟨w.heap.size + 1, 0, none⟩ (.slice A1 (hitB u l (sx, sy, sz)).length c1)).setCell ⟨w.heap.size + 1, 1, none⟩ (.slice A2 (conM u l (sx, sy, sz)).length c2)).heap[k]? = w5.heap[k]? := fun k hk => (Below.heap_setCell _ ⟨w.heap.size + 1, 1, none⟩ _ k hk).trans (Below.heap_setCell _ ⟨w.heap.size + 1, 0, none⟩ _ k hk)
  have hX5 := HX.out
  have hXw := hB0.trans (hX5.mono hB0.size)
  exact ⟨A1, A2, c1, c2, rfl, (H1.out.same fun g e => hsm g (by have := (H1.out.ge e).1; omega)).mono (by omega), (H2.out.same fun g e => hsm g (by have := (H2.out.ge e).1; omega)).mono (by omega), (hXw.setCell (p := ⟨w.heap.size + 1, 0, none⟩) (Nat.le_succ _) _).setCell (p := ⟨w.heap.size + 1, 1, none⟩) (Nat.le_succ _) _⟩
theorem bitField0 (A1 A2 : Option Addr) (n1 c1 n2 c2 : Nat) (w : World) : (Instr.field 61 (.agg #[.slice A1 n1 c1, .slice A2 n2 c2]) 0).run Tryz.prog w = .ok (.slice A1 n1 c1) w := by
  rfl
theorem bitHits_ok (u l p : List Cel) (vu vl vp : Value) (k : Nat) (s : Cel) (w : World) (h : BitS w vu vl vp u l p) (ok : BiteOk u l p) (hc : p[k]? = some s) :
    Calls Tryz.prog 11 #[bitV vu vl vp, .int .i64 k] w fun e w' => ∃ (A : Option Addr) (c : Nat), e = .returned (.tuple #[.slice A (hitB u l s).length c, .int .i64 0]) ∧ Own w' w.heap.size (.slice A (hitB u l s).length c) (hitB u l s) ∧ Below w.heap.size w w' := by
  have hk : k < p.length := (List.getElem?_eq_some_iff.1 hc).1
  obtain ⟨U, uc, rfl⟩ := h.su.form
  obtain ⟨A, ac, rfl⟩ := h.sl.form
  obtain ⟨P, pc, rfl⟩ := h.sp.form
  obtain ⟨W0, hW⟩ : ∃ W0, W0 = w.alloc (.cells #[.slice U u.length uc, .slice A l.length ac, .slice P p.length pc] 31) := ⟨_, rfl⟩
  have hB0 : Below w.heap.size w W0 := by subst hW; exact (Below.refl _ _).alloc (Nat.le_refl _) _
  have hrow : W0.heap[w.heap.size]? = some (.cells #[.slice U u.length uc, .slice A l.length ac, .slice P p.length pc] 31 (0, 0)) := by subst hW; exact heap_alloc_new w _
  have hlt : w.heap.size < W0.heap.size := (Array.getElem?_eq_some_iff.1 hrow).1
  have q := bitAt_ok u l p _ _ _ k W0 (h.below hB0) ok hk
  have q2 := fun W (hW : Below W0.heap.size W0 W) => bitMeetAt_ok u l p _ _ _ k s W (h.below (hB0.trans (hW.mono hB0.size))) ok hc
  obtain ⟨d0, d1, d2⟩ := three_cellsB hrow
  unfold bitV at q q2 ⊢
  unfold MeetE at q2
  clear h ok
  go_enter Tryz.func11, Tryz.ntmps11
  go_wp2_with fail
  rw [← hW]
  clear hW
  refine q.mono ?_
  rintro e w1 ⟨rfl, hB1⟩
  obtain ⟨e0, e1, e2⟩ := three_cellsB ((hB1.block _ hlt).trans hrow)
  have q3 := q2 w1 hB1
  clear q q2 hrow d0 d1 d2
  go_wp2_with fail
  refine q3.mono ?_
  rintro e w2 ⟨A1, A2, c1, c2, rfl, hS1, hS2, hB2⟩
  have H1 := Lib.hid hS1
  have hf := bitField0 A1 A2 (hitB u l s).length c1 (conM u l s).length c2 w2
  clear hS1 hS2 q3
  go_wp2
  go_ret2
  have hX := hB0.trans (hB1.mono hB0.size)
  exact ⟨A1, c1, rfl, H1.out.mono hX.size, hX.trans (hB2.mono hX.size)⟩
/-- What a call of contacts ends with: an error where there are hits. -/
def ContE (u l : List Cel) (s : Cel) (w : World) (e : Ending) (w' : World) : Prop := (hitB u l s ≠ [] ∧ e = .returned (.tuple #[.slice none 0 0, .int .i64 16]) ∧ Below w.heap.size w w') ∨ (hitB u l s = [] ∧ ∃ (A : Option Addr) (c : Nat), e = .returned (.tuple #[.slice A (conB u l s).length c, .int .i64 0]) ∧ Own w' w.heap.size (.slice A (conB u l s).length c) (conB u l s) ∧ Below w.heap.size w w')
theorem bitContact_ok (u l p : List Cel) (vu vl vp : Value) (k : Nat) (s : Cel) (w : World) (h : BitS w vu vl vp u l p) (ok : BiteOk u l p) (hc : p[k]? = some s) :
    Calls Tryz.prog 42 #[bitV vu vl vp, .int .i64 k] w (ContE u l s w) := by
  have hk : k < p.length := (List.getElem?_eq_some_iff.1 hc).1
  obtain ⟨U, uc, rfl⟩ := h.su.form
  obtain ⟨A, ac, rfl⟩ := h.sl.form
  obtain ⟨P, pc, rfl⟩ := h.sp.form
  obtain ⟨W0, hW⟩ : ∃ W0, W0 = w.alloc (.cells #[.slice U u.length uc, .slice A l.length ac, .slice P p.length pc] 31) := ⟨_, rfl⟩
  have hB0 : Below w.heap.size w W0 := by subst hW; exact (Below.refl _ _).alloc (Nat.le_refl _) _
  have hrow : W0.heap[w.heap.size]? = some (.cells #[.slice U u.length uc, .slice A l.length ac, .slice P p.length pc] 31 (0, 0)) := by subst hW; exact heap_alloc_new w _
  have q2 := bitMeetAt_ok u l p _ _ _ k s W0 (h.below hB0) ok hc
  obtain ⟨d0, d1, d2⟩ := three_cellsB hrow
  unfold bitV at q2 ⊢
  unfold MeetE at q2
  unfold ContE
  clear h ok hrow
  go_enter Tryz.func42, Tryz.ntmps42
  go_wp2_with fail
  rw [← hW]
  clear hW
  refine q2.mono ?_
  rintro e w1 ⟨A1, A2, c1, c2, rfl, hS1, hS2, hB1⟩
  clear q2 d0 d1 d2 hS1
  obtain ⟨W2, hW2⟩ : ∃ W2, W2 = w1.alloc (.cells #[.slice A1 (hitB u l s).length c1, .slice A2 (conM u l s).length c2] 61) := ⟨_, rfl⟩
  have hb2 : Below w1.heap.size w1 W2 := by rw [hW2]; exact below_alloc _ _
  have hrow2 : W2.heap[w1.heap.size]? = some (.cells #[.slice A1 (hitB u l s).length c1, .slice A2 (conM u l s).length c2] 61 (0, 0)) := by rw [hW2]; exact heap_alloc_new w1 _
  have hlt2 : w1.heap.size < W2.heap.size := (Array.getElem?_eq_some_iff.1 hrow2).1
  have kS := bitState_ok A1 A2 (hitB u l s).length c1 (conM u l s).length c2 W2
  rw [state_len] at kS
  obtain ⟨⟨z0, z1⟩, -⟩ := two_cellsB hrow2
  have hX2 : Below w.heap.size w W2 := (hB0.trans (hB1.mono hB0.size)).trans (hb2.mono (hB0.trans (hB1.mono hB0.size)).size)
  have H2 := Lib.hid (hS2.keep hb2)
  clear hS2
  by_cases hH : hitB u l s = []
  · have hst : (stateB u l s == 2) = false := by
      unfold stateB
      rw [if_neg (fun h => h hH)]
      split <;> rfl
    have hcm : conM u l s = conB u l s := by unfold conM; rw [if_pos hH]
    generalize stateB u l s = st at kS hst
    have HH := Lib.hid hH
    have HC := Lib.hid hcm
    clear hH hcm
    go_wp2_with fail
    rw [← hW2]
    clear hW2
    refine kS.mono ?_
    rintro e w3 ⟨rfl, hB3⟩
    obtain ⟨⟨y0, y1⟩, -⟩ := two_cellsB ((hB3.block _ hlt2).trans hrow2)
    clear kS z0 z1 hrow2
    go_wp2
    go_ret2
    refine .inr ⟨HH.out, A2, c2, ?_, ?_, hX2.trans (hB3.mono hX2.size)⟩
    · rw [← HC.out]
      rfl
    · rw [← HC.out]
      exact (H2.out.keep hB3).mono hB0.size
  · have hst : stateB u l s = 2 := by
      unfold stateB
      rw [if_pos hH]
    rw [hst] at kS
    have HH := Lib.hid hH
    clear hH hst
    go_wp2_with fail
    rw [← hW2]
    clear hW2
    refine kS.mono ?_
    rintro e w3 ⟨rfl, hB3⟩
    clear kS z0 z1 hrow2
    go_wp2
    go_ret2
    exact .inl ⟨HH.out, rfl, hX2.trans (hB3.mono hX2.size)⟩
theorem bitContacts_ok (u l p : List Cel) (vu vl vp : Value) (k : Nat) (s : Cel) (w : World) (h : BitS w vu vl vp u l p) (ok : BiteOk u l p) (hc : p[k]? = some s) :
    Calls Tryz.prog 15 #[bitV vu vl vp, .int .i64 k] w (ContE u l s w) := by
  have hk : k < p.length := (List.getElem?_eq_some_iff.1 hc).1
  obtain ⟨U, uc, rfl⟩ := h.su.form
  obtain ⟨A, ac, rfl⟩ := h.sl.form
  obtain ⟨P, pc, rfl⟩ := h.sp.form
  obtain ⟨W0, hW⟩ : ∃ W0, W0 = w.alloc (.cells #[.slice U u.length uc, .slice A l.length ac, .slice P p.length pc] 31) := ⟨_, rfl⟩
  have hB0 : Below w.heap.size w W0 := by subst hW; exact (Below.refl _ _).alloc (Nat.le_refl _) _
  have hrow : W0.heap[w.heap.size]? = some (.cells #[.slice U u.length uc, .slice A l.length ac, .slice P p.length pc] 31 (0, 0)) := by subst hW; exact heap_alloc_new w _
  have hlt : w.heap.size < W0.heap.size := (Array.getElem?_eq_some_iff.1 hrow).1
  have q := bitAt_ok u l p _ _ _ k W0 (h.below hB0) ok hk
  have q2 := fun W (hW : Below W0.heap.size W0 W) => bitContact_ok u l p _ _ _ k s W (h.below (hB0.trans (hW.mono hB0.size))) ok hc
  obtain ⟨d0, d1, d2⟩ := three_cellsB hrow
  unfold bitV at q q2 ⊢
  unfold ContE at q2 ⊢
  clear h ok
  go_enter Tryz.func15, Tryz.ntmps15
  go_wp2_with fail
  rw [← hW]
  clear hW
  refine q.mono ?_
  rintro e w1 ⟨rfl, hB1⟩
  obtain ⟨e0, e1, e2⟩ := three_cellsB ((hB1.block _ hlt).trans hrow)
  have q3 := q2 w1 hB1
  have hX := hB0.trans (hB1.mono hB0.size)
  clear q q2 hrow d0 d1 d2
  go_wp2_with fail
  refine q3.mono ?_
  rintro e w2 (⟨h1, rfl, hB2⟩ | ⟨h1, A2, c2, rfl, hS, hB2⟩)
  · have H1 := Lib.hid h1
    clear h1 q3
    go_wp2
    go_ret2
    exact .inl ⟨H1.out, rfl, hX.trans (hB2.mono hX.size)⟩
  · have H1 := Lib.hid h1
    have HS := Lib.hid hS
    clear h1 hS q3
    go_wp2
    go_ret2
    exact .inr ⟨H1.out, A2, c2, rfl, HS.out.mono hX.size, hX.trans (hB2.mono hX.size)⟩
end Go.Proofs
end

section
/- append in a region that draws its order. -/
namespace Go.Proofs
open Go.Shelf Go.RowKit Go.Lib Go.Sort
set_option maxHeartbeats 8000000
set_option maxRecDepth 1000000
/-- append of a few cells in a region that draws its order. -/
theorem step_append_sl {w : World} {ops : Array Oper} {o : Oper} {a : Act} {K : Act → World → Prop} {Q : Exit → Act → World → Prop} {E : Prop} (hgd : o.guard = none) (s x : Operand)
    (ho : o.op = .call { callee := .builtin .append, args := #[s, x], argTypes := #[22, 22] }) (B : Nat) (hB : B ≤ w.heap.size) (v : Value) (l : List Cel) (hs : a.eval s = v) (hown : Own w B v l)
    (vx : Value) (m : List Cel) (hx : a.eval x = vx) (hm : Sl w vx m) (h0 : m ≠ []) (hn : l.length + m.length ≤ 1000000)
    (h : ∀ v' w', Own w' B v' (l ++ m) → Below B w w' → K (a.put o.dst v') w') : if Region.wanted o (yielded ops a.tmps) = true then Oper.wp Tryz.prog o a w K Q else E := by
  obtain ⟨j0, hj, hy0, hy1, hy2⟩ := info_parts (P := Tryz.prog) (e := 34) (z := .agg #[.int .i64 0, .int .i64 0, .int .i64 0]) (size := 3) (bytes := 24) (by kernel_rfl)
  have hp := List.length_pos_iff.2 h0
  rcases hm with ⟨rfl, rfl⟩ | ⟨ad, cap, rfl, hm⟩
  · exact absurd rfl h0
  · refine step_append_lies w hgd s x _ ho B 34 j0 _ 3 24 Tryz.underlying22 hj hy0 hy1 hy2 rfl (by decide) v l.length (flatC l) hs hown ad m.length cap (flatC m) hx (flatC_len3 m) (sl_cells hm) flatC_one3 hp (by unfold maxLen; omega) (by omega) hB _ rfl fun g cap w' h1 h2 _ _ => ?_
    exact h _ w' (own_of h1 List.length_append.symm (flatC_append l m).symm) ((Below.refl B w).grown h2 hB fun k hk => (hown.lt k hk).1)
end Go.Proofs
end

section
/- Steps of a held region by hand: an operation whose guard says no is passed over first. -/
namespace Go.Proofs
theorem held_no {P : Program} {ops : Array Oper} {Q : Exit → Act → World → Prop} {md : Region.Mode} {S : World → Prop} (i : Nat) (d : Option Tmp) {oi : Oper} {fuel : Nat} {listed : Array Bool} {a : Act} {w : World} (hi : ops[i]? = some oi) (hd : oi.dst = d)
    (hs : Region.noSelect ops = true) (hf : Region.free md ops listed i = true) (hr : (Region.ready md ops listed).contains i = true)
    (hQ : ∀ c a w, Q (.panic c) (a.put oi.dst undef) w → Q (.panic c) a w) (hw : Region.wanted oi (yielded ops a.tmps) = false) (hS : S w)
    (h : wpAnyH P md ops Q S fuel (listed.setIfInBounds i true) (a.put d undef) w) : wpAnyH P md ops Q S (fuel + 1) listed a w := by
  subst hd
  exact wpAnyH_take hi hs hf hr hQ (.inr ⟨hw, rfl⟩) hS h
theorem held_yes {P : Program} {ops : Array Oper} {Q : Exit → Act → World → Prop} {md : Region.Mode} {S : World → Prop} (i : Nat) (d : Option Tmp) (v : Value) {oi : Oper} {fuel : Nat} {listed : Array Bool} {a : Act} {w : World} (hi : ops[i]? = some oi) (hd : oi.dst = d)
    (hs : Region.noSelect ops = true) (hf : Region.free md ops listed i = true) (hr : (Region.ready md ops listed).contains i = true)
    (hQ : ∀ c a w, Q (.panic c) (a.put oi.dst v) w → Q (.panic c) a w) (hw : Region.wanted oi (yielded ops a.tmps) = true) (hy : ∀ w, S w → (execOp a.eval oi).run P w = .ok (.value v) w) (hS : S w)
    (h : wpAnyH P md ops Q S fuel (listed.setIfInBounds i true) (a.put d v) w) : wpAnyH P md ops Q S (fuel + 1) listed a w := by
  subst hd
  exact wpAnyH_take hi hs hf hr hQ (.inl ⟨hw, hy⟩) hS h
end Go.Proofs
end
