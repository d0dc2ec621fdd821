/- Jobs: the search for the best order: an order that is made longer. -/
import Derived.Test.YtdiddniddohhgaaGreatDoorJobF
namespace Go.Proofs
open Go.RowKit
set_option maxHeartbeats 16000000
set_option maxRecDepth 1000000
theorem stepB_app {w w' : World} {ops : Array Oper} {o : Oper} {a : Act} {K : Act → World → Prop} {Q : Exit → Act → World → Prop} {E : Prop} (hgd : o.guard = none) (s x : Operand) (T : TypeId)
    (ho : o.op = .call { callee := .builtin .append, args := #[s, x], argTypes := #[T, T] }) (vs vx r : Value) (hs : a.eval s = vs) (hx : a.eval x = vx) (hr : (Builtin.append_ #[T, T] o.type #[vs, vx]).run Tryz.prog w = .ok r w')
    (h : K (a.put o.dst r) w') : if Region.wanted o (yielded ops a.tmps) = true then Oper.wp Tryz.prog o a w K Q else E := by
  have hw : Region.wanted o (yielded ops a.tmps) = true := by simp [Region.wanted, hgd]
  rw [if_pos hw]
  unfold Oper.wp execOp
  simp only [ho, resolve, invoke, builtin, Sem.run_bind, Sem.run_pure, Result.andThen_ok, List.map_toArray, List.map_cons, List.map_nil, hs, hx, hr]
  exact h
theorem evalB_tmp (a : Act) (t : Nat) : a.eval (.tmp t) = a.tmps.getD t undef := by
  first | rfl | simp [Act.eval]
def ExtOk (js : List JobT) (m : Nat) (w1 : World) (B2 bb bl bj bx : Nat) (vl : Value) (f : Nat) : Prop :=
  ∀ (order : List Nat) (free : List Int) (s : StT) (vo vf vb : Value) (w : World), order.length ≤ js.length → js.length ≤ order.length + f → PreB js m w1 B2 bb bl bj bx vl order free s vo vf vb w →
    Calls Tryz.prog 67 #[vo, vf, ptrN bb, ptrN bl, ptrN bj, ptrN bx] w (PostB js w1 B2 bb bl order (expl js f order free s) vo vb w)
/-- What holds at each round of the search. -/
structure RoB (js : List JobT) (w1 : World) (B2 bb bl : Nat) (order : List Nat) (vo vb : Value) (w : World) (s : StT) (wr : World) : Prop where
  fr : FrX w1.heap.size bb bl vo w wr
  oo : OwnI 3 wr B2 vo (ints order)
  st : ∃ vk, StB B2 bb bl wr vk s ∧ (vk = vb ∨ ∀ g, vk.ownBlock = some g → w.heap.size ≤ g ∧ g < wr.heap.size)
theorem RoB.below {js : List JobT} {w1 : World} {B2 bb bl : Nat} {order : List Nat} {vo vb : Value} {w : World} {s : StT} {wr w' : World} (h : RoB js w1 B2 bb bl order vo vb w s wr) (hB1 : w1.heap.size ≤ wr.heap.size) (hv : ∀ g, vb.ownBlock = some g → g < wr.heap.size) (hb : Below wr.heap.size wr w') : RoB js w1 B2 bb bl order vo vb w s w' := by
  obtain ⟨vk, h1, h2⟩ := h.st
  have hk : ∀ g, vk.ownBlock = some g → g < wr.heap.size := fun g e => by
    rcases h2 with rfl | h2
    · exact hv g e
    · exact (h2 g e).2
  refine ⟨h.fr.trans (FrX.of_below hB1 hb), h.oo.keep hb, vk, h1.below hb hk, ?_⟩
  rcases h2 with h2 | h2
  · exact .inl h2
  · exact .inr fun g e => ⟨(h2 g e).1, Nat.lt_of_lt_of_le (h2 g e).2 hb.size⟩
theorem ext_step (js : List JobT) (m : Nat) (w1 : World) (B2 bb bl bj bx : Nat) (vl : Value) (f : Nat) (IH : ExtOk js m w1 B2 bb bl bj bx vl f) (order : List Nat) (free : List Int) (s : StT) (vo vf vb : Value) (w : World) (hx : Bx w1.heap.size B2 bb bl bj bx) (hp : PreB js m w1 B2 bb bl bj bx vl order free s vo vf vb w) (hm : 0 < m ∧ m ≤ 8) (hc : cutB s (lastI free) = false) (hf : order.length < js.length) (hfu : js.length ≤ order.length + (f + 1)) (hj : SlJ w1 vl js) (h0 : 0 < js.length ∧ js.length ≤ 32) (hok : ∀ j ∈ js, JobOk m j) :
    Calls Tryz.prog 67 #[vo, vf, ptrN bb, ptrN bl, ptrN bj, ptrN bx] w (PostB js w1 B2 bb bl order (expl js (f + 1) order free s) vo vb w) := by
  rw [expl_succ js f order free s hc (by omega)]
  obtain ⟨gf, n1, cap, hn, hvf, hcl, hgf⟩ := last_cell hp.of_ (by rw [hp.fr.1]; exact hm.1)
  have hn8 : n1 < 8 := by have := hp.fr.1; omega
  have hol : (ints order).length = order.length := by unfold ints; rw [List.length_map]
  have hoo := hp.oo
  obtain ⟨Ao, co, hvo⟩ := hp.oo.sl.form
  rw [hol] at hvo
  obtain ⟨bJ, oJ, cl, hvl, hbJ, hat⟩ := hj.addr h0.1
  have hlj : w.cell? ⟨bj, 0, none⟩ = some (.slice (some ⟨bJ, oJ, none⟩) js.length cl) := by rw [← hvl]; exact hp.ev.lj.cell (by rfl)
  have hp' := hp
  obtain ⟨least, hb, hl, hs⟩ := hp'.st
  have hlc : w.cell? ⟨bl, 0, none⟩ = some (.int .i64 least) := hl.cell (by rfl)
  obtain ⟨Ab, nb, cb, hvb, hld⟩ : ∃ (Ab : Option Addr) (nb cb : Nat), vb = .slice Ab nb cb ∧ ((!Ab.isNone) = true → decide (least ≤ lastI free) = false) := by
    cases s with
    | none => exact ⟨none, 0, 0, hs, fun h => by cases h⟩
    | some x =>
      obtain ⟨ho, hx0, rfl⟩ := hs
      obtain ⟨A, c, hv⟩ := ho.sl.form
      exact ⟨A, _, c, hv, fun _ => hc⟩
  have hbc : w.cell? ⟨bb, 0, none⟩ = some (.slice Ab nb cb) := by rw [← hvb]; exact hb.cell (by rfl)
  have hq1 : (binOp .neq 23 (.slice Ab nb cb) (.slice none 0 0)).run Tryz.prog w = .ok (.bool (!Ab.isNone)) w := Go.run_neq_slice_nil w _ _ Ab nb cb Tryz.underlying23
  have hi0 : (0 : Int) ≤ n1 := by omega
  have hi1 : (n1 : Int) < n1 + 1 := by omega
  have hn9 : n1 ≤ 100000 := by omega
  have hne1 : ((order.length : Int) == (js.length : Int)) = false := by simp; omega
  have hne2 : (order.length == js.length) = false := by simp; omega
  have hjl : js.length ≤ 32 := h0.2
  have hvbl : ∀ g, vb.ownBlock = some g → g < w.heap.size := fun g e => (hp.lb g e).2
  have hstart : RoB js w1 B2 bb bl order vo vb w (preX js f order free s 0) w := ⟨.refl _ _ _ _ _, hp.oo, vb, hp.st, .inl rfl⟩
  have HS := Lib.hid hstart
  have HE := Lib.hid hp
  have HV := Lib.hid (And.intro hvo (And.intro hvf hvb))
  have HQ := Lib.hid hj
  have HN := Lib.hid hn
  have HVL := Lib.hid hvl
  have HJ := Lib.hid hat
  have HOK := Lib.hid hok
  have HB := Lib.hid hvbl
  have HF := Lib.hid (And.intro hf hfu)
  rw [hvo, hvf]
  clear hstart hp hp' hb hl hs hn hf hfu hj hc hoo hvo hvf hvb hvl hat hok hvbl hol
  obtain ⟨el, hel⟩ : ∃ el, el = lastI free := ⟨_, rfl⟩
  rw [← hel] at hcl hld
  clear hel
  obtain ⟨wn1, wn2⟩ := wrapsN hn9
  unfold ptrN
  go_enter Tryz.func67, Tryz.ntmps67
  obtain ⟨bn, hbn⟩ : ∃ bn, bn = (!Ab.isNone) := ⟨_, rfl⟩
  rw [← hbn] at hq1 hld
  clear hbn
  cases bn
  case' true => have hld := hld rfl
  all_goals
    try clear hld
    go_wp2_with fail
    go_loopw [34] (fun i wr => ∃ k : Nat, k ≤ js.length ∧ i = .int .i64 k ∧ RoB js w1 B2 bb bl order vo vb w (preX js f order free s k) wr) (fun i _ => js.length - (intOf i).toNat)
    case atStart => exact ⟨0, Nat.zero_le _, rfl, HS.out⟩
    case round =>
      obtain ⟨k, hk, rfl, hR⟩ := hrel
      rcases Nat.lt_or_eq_of_le hk with hkn | rfl
      · obtain ⟨⟨nm, tl, dl⟩, hjk⟩ : ∃ j, js[k]? = some j := ⟨_, List.getElem?_eq_getElem hkn⟩
        obtain ⟨vt, vd, j0, j1, j2, ht, hd⟩ := HJ.out k _ hjk
        dsimp only at j0 j1 j2 ht hd
        have hjo : JobOk m (nm, tl, dl) := HOK.out _ (List.mem_of_getElem? hjk)
        obtain ⟨At, ct, rfl⟩ := ht.form
        obtain ⟨Ad, cd, rfl⟩ := hd.form
        have hpe := HE.out
        have hbr : Below w1.heap.size w1 wr := hpe.ev.be.trans hR.fr.be
        have c0 := (hbr.cell (p := ⟨bJ, oJ + k * 3, none⟩) hbJ).trans j0
        have c1 := (hbr.cell (p := ⟨bJ, oJ + k * 3 + 1, none⟩) hbJ).trans j1
        have c2 := (hbr.cell (p := ⟨bJ, oJ + k * 3 + 2, none⟩) hbJ).trans j2
        have hi0 : (0 : Int) ≤ k := by omega
        have hi1 : (k : Int) < js.length := by omega
        obtain ⟨wa, hwa⟩ : ∃ wa, wa = wr.alloc (.cells #[.string nm, .slice At tl.length ct, .slice Ad dl.length cd] 132) := ⟨_, rfl⟩
        have hba : Below wr.heap.size wr wa := by subst hwa; exact (Below.refl _ _).alloc (Nat.le_refl _) _
        have rJ : RowK wa 132 wr.heap.size [.string nm, .slice At tl.length ct, .slice Ad dl.length cd] := by subst hwa; exact heap_alloc_new wr _
        have kC := containsI_ok (ints order) k vo wa (hR.oo.sl.below hba) (by unfold ints; rw [List.length_map]; have := HF.out.1; omega)
        rw [HV.out.1] at kC
        have HWA := Lib.hid hwa
        clear hwa j0 j1 j2
        have HK := Lib.hid (show k + 1 ≤ js.length from hkn)
        have HM := Lib.hid (show js.length - (k + 1) < js.length - k by omega)
        have HR := Lib.hid hR
        have HPE := Lib.hid hpe
        have hvr : ∀ g, vb.ownBlock = some g → g < wr.heap.size := fun g e => Nat.lt_of_lt_of_le (HB.out g e) hR.fr.be.size
        have hB1r : w1.heap.size ≤ wr.heap.size := hbr.size
        have HVR := Lib.hid hvr
        obtain ⟨wk1, wk2⟩ := wrapsK hkn (by omega)
        clear hR hpe hvr
        by_cases hmem : k ∈ order
        · have hdm : decide ((k : Int) ∈ ints order) = true := decide_eq_true (mem_ints.2 hmem)
          rw [hdm] at kC
          have hnext : preX js f order free s (k + 1) = preX js f order free s k := by
            rw [preX_succ]
            unfold bodyX
            rw [if_pos hmem]
          go_wp2_with fail
          rw [← HWA.out]
          refine kC.mono ?_
          rintro e w2 ⟨rfl, hw2⟩
          obtain rfl : wa = w2 := hw2.symm
          clear hw2
          have hR2 := HR.out.below hB1r HVR.out hba
          rw [← hnext] at hR2
          have HR2 := Lib.hid hR2
          clear hR2 hnext kC c0 c1 c2
          go_wp2_with fail
          go_roundw
          case rel => exact ⟨k + 1, HK.out, by simp, HR2.out⟩
          case measure => exact HM.out
        · have hdm : decide ((k : Int) ∈ ints order) = false := decide_eq_false (fun h => hmem (mem_ints.1 h))
          rw [hdm] at kC
          go_wp2_with fail
          rw [← HWA.out]
          refine kC.mono ?_
          rintro e w2 ⟨rfl, hw2⟩
          obtain rfl : wa = w2 := hw2.symm
          clear hw2
          clear kC c0 c1 c2
          have hxr : wa.cell? ⟨bx, 0, none⟩ = some (extV bb bl bj bx) := by
            have hev := HPE.out.ev.fr hx HR.out.fr (fun g e => (HPE.out.oo.lt g e).1)
            exact (hev.below hba).lx.cell (by rfl)
          have hxl : bx < wa.heap.size := by have := hx.x2; have := HPE.out.ev.sz; have := HR.out.fr.be.size; have := hba.size; omega
          have kk : ∀ V, Below wa.heap.size wa V → V.cell? ⟨bx, 0, none⟩ = some (extV bb bl bj bx) ∧ V.cell? ⟨wr.heap.size, 0, none⟩ = some (.string nm) ∧ V.cell? ⟨wr.heap.size, 1, none⟩ = some (.slice At tl.length ct) ∧ V.cell? ⟨wr.heap.size, 2, none⟩ = some (.slice Ad dl.length cd) := fun V h => ⟨(h.cell (p := ⟨bx, 0, none⟩) hxl).trans hxr, (rJ.below h).cell (by rfl), (rJ.below h).cell (by rfl), (rJ.below h).cell (by rfl)⟩
          have hHeld := kk _ (Below.refl wa.heap.size wa).drew
          have KK := Lib.hid kk
          clear kk hxr
          go_wp2_with fail
          refine wp_region_held_drew (S := fun V => V.cell? ⟨bx, 0, none⟩ = some (extV bb bl bj bx) ∧ V.cell? ⟨wr.heap.size, 0, none⟩ = some (.string nm) ∧ V.cell? ⟨wr.heap.size, 1, none⟩ = some (.slice At tl.length ct) ∧ V.cell? ⟨wr.heap.size, 2, none⟩ = some (.slice Ad dl.length cd)) (by kernel_rfl) hHeld (fun hHeld => ?_)
          refine held_yes 0 (some 43) (extV bb bl bj bx) rfl rfl (by kernel_rfl) (by kernel_rfl) (by kernel_rfl) (fun _ _ _ h => h) rfl (fun w' hS => by obtain ⟨s0, s1, s2, s3⟩ := hS; unfold extV at *; go_simp) hHeld ?_
          try simp only [Act.put, List.setIfInBounds_toArray, List.set_cons_zero, List.set_cons_succ]
          refine held_yes 1 (some 44) (.slice Ao order.length co) rfl rfl (by kernel_rfl) (by kernel_rfl) (by kernel_rfl) (fun _ _ _ h => h) rfl (fun w' hS => by skip; go_simp) hHeld ?_
          try simp only [Act.put, List.setIfInBounds_toArray, List.set_cons_zero, List.set_cons_succ]
          refine held_yes 2 (some 45) (.int .i64 k) rfl rfl (by kernel_rfl) (by kernel_rfl) (by kernel_rfl) (fun _ _ _ h => h) rfl (fun w' hS => by skip; go_simp) hHeld ?_
          try simp only [Act.put, List.setIfInBounds_toArray, List.set_cons_zero, List.set_cons_succ]
          refine held_yes 5 (some 48) (.agg #[.string nm, .slice At tl.length ct, .slice Ad dl.length cd]) rfl rfl (by kernel_rfl) (by kernel_rfl) (by kernel_rfl) (fun _ _ _ h => h) rfl (fun w' hS => by obtain ⟨s0, s1, s2, s3⟩ := hS; unfold extV at *; go_simp) hHeld ?_
          try simp only [Act.put, List.setIfInBounds_toArray, List.set_cons_zero, List.set_cons_succ]
          refine held_yes 6 (some 49) (.agg #[.string nm, .slice At tl.length ct, .slice Ad dl.length cd]) rfl rfl (by kernel_rfl) (by kernel_rfl) (by kernel_rfl) (fun _ _ _ h => h) rfl (fun w' hS => by obtain ⟨s0, s1, s2, s3⟩ := hS; unfold extV at *; go_simp) hHeld ?_
          try simp only [Act.put, List.setIfInBounds_toArray, List.set_cons_zero, List.set_cons_succ]
          refine held_yes 7 (some 50) (.slice (some ⟨gf, 0, none⟩) (n1 + 1) cap) rfl rfl (by kernel_rfl) (by kernel_rfl) (by kernel_rfl) (fun _ _ _ h => h) rfl (fun w' hS => by skip; go_simp) hHeld ?_
          try simp only [Act.put, List.setIfInBounds_toArray, List.set_cons_zero, List.set_cons_succ]
          refine wpAnyH_ready (rs := [3]) (by kernel_rfl) (by simp) ?_
          refine AllReadyH.cons rfl (fun K hK => ?_) AllReadyH.nil
          go_simp
          obtain ⟨wb, hwb⟩ : ∃ wb, wb = (wa.alloc (.cells #[.int .i64 k] 3)).drew := ⟨_, rfl⟩
          have hbb : Below wa.heap.size wa wb := by subst hwb; exact ((Below.refl wa.heap.size wa).alloc (Nat.le_refl _) _).drew
          have rK : RowK wb 3 wa.heap.size [.int .i64 k] := by subst hwb; exact heap_alloc_new wa _
          have hIK : IAt wb wa.heap.size 0 [(k : Int)] := fun i x hi => by
            match i, hi with
            | 0, hi =>
              obtain rfl : (k : Int) = x := by simpa using hi
              exact rK.cell (by rfl)
            | i + 1, hi => simp at hi
          rw [← hwb]
          clear hwb
          refine hK.out _ _ (KK.out _ hbb) (fun hHeld => ?_)
          clear hK K
          try simp only [Act.put, List.setIfInBounds_toArray, List.set_cons_zero, List.set_cons_succ]
          have hbrb := hba.trans (hbb.mono hba.size)
          have hBr : B2 ≤ wr.heap.size := Nat.le_trans HPE.out.ev.sz HR.out.fr.be.size
          obtain ⟨A2, c2, wc, hap, hown, hg, hol2, hcase⟩ := run_append_ints wb 23 B2 vo (ints order) [(k : Int)] (HR.out.oo.keep hbrb) wa.heap.size 0 1 hIK (by simp) (by unfold ints; rw [List.length_map]; have := HF.out.1; simp; omega) (Nat.le_trans hBr hbrb.size)
          have hil : (ints order).length = order.length := by unfold ints; rw [List.length_map]
          rw [hil, List.length_singleton] at hap hown
          rw [hil] at hcase
          rw [HV.out.1] at hap
          refine wpAnyH_ready (rs := [4]) (by kernel_rfl) (by simp) ?_
          refine AllReadyH.cons rfl (fun K hK => ?_) AllReadyH.nil
          refine stepB_app (w' := wc) rfl (.tmp 44) (.tmp 46) _ rfl (.slice Ao order.length co) (.slice (some ⟨wa.heap.size, 0, none⟩) 1 1) (.slice A2 (order.length + 1) c2) (by rw [evalB_tmp]; rfl) (by rw [evalB_tmp]; rfl) hap ?_
          clear hap
          have hvb4 : ∀ g, vo.ownBlock = some g → g < wr.heap.size := fun g e => (HR.out.oo.lt g e).2
          have hbc : Below w1.heap.size w1 wc := by
            have h1 := HPE.out.ev.be.trans HR.out.fr.be
            have h2 := h1.trans (hbrb.mono h1.size)
            exact h2.grown hg h2.size (fun g e => by have := (HR.out.oo.lt g e).1; have := HPE.out.ev.sz; have := hx.b1; have := hx.b2; omega)
          have hfc : FrX w1.heap.size bb bl vo wr wc := ⟨(hbrb.mono hB1r).grown hg (Nat.le_trans hB1r hbrb.size) (fun g e => by have := (HR.out.oo.lt g e).1; have := hx.b1; have := hx.b2; omega), fun g hg1 h1 h2 h3 => (hg.block g (Nat.lt_of_lt_of_le hg1 hbrb.size) (fun e => h3 e.symm)).trans (hbrb.block g hg1)⟩
          have hSc : wc.cell? ⟨bx, 0, none⟩ = some (extV bb bl bj bx) ∧ wc.cell? ⟨wr.heap.size, 0, none⟩ = some (.string nm) ∧ wc.cell? ⟨wr.heap.size, 1, none⟩ = some (.slice At tl.length ct) ∧ wc.cell? ⟨wr.heap.size, 2, none⟩ = some (.slice Ad dl.length cd) := by
            have hxe := (HPE.out.ev.fr hx HR.out.fr (fun g e => (HPE.out.oo.lt g e).1)).fr hx hfc (fun g e => (HR.out.oo.lt g e).1)
            have hrj : RowK wc 132 wr.heap.size [.string nm, .slice At tl.length ct, .slice Ad dl.length cd] := (rJ.below hbb).keep (hg.block _ (rJ.below hbb).lt (fun e => by have := hvb4 _ e.symm; omega))
            exact ⟨hxe.lx.cell (by rfl), hrj.cell (by rfl), hrj.cell (by rfl), hrj.cell (by rfl)⟩
          have kk2 : ∀ V, Below wc.heap.size wc V → V.cell? ⟨bx, 0, none⟩ = some (extV bb bl bj bx) ∧ V.cell? ⟨wr.heap.size, 0, none⟩ = some (.string nm) ∧ V.cell? ⟨wr.heap.size, 1, none⟩ = some (.slice At tl.length ct) ∧ V.cell? ⟨wr.heap.size, 2, none⟩ = some (.slice Ad dl.length cd) := fun V h => by
            have hrl : wr.heap.size < wc.heap.size := Nat.lt_of_lt_of_le (rJ.below hbb).lt hg.size
            have hxl2 : bx < wc.heap.size := Nat.lt_of_lt_of_le hxl (Nat.le_trans hbb.size hg.size)
            exact ⟨(h.cell (p := ⟨bx, 0, none⟩) hxl2).trans hSc.1, (h.cell (p := ⟨wr.heap.size, 0, none⟩) hrl).trans hSc.2.1, (h.cell (p := ⟨wr.heap.size, 1, none⟩) hrl).trans hSc.2.2.1, (h.cell (p := ⟨wr.heap.size, 2, none⟩) hrl).trans hSc.2.2.2⟩
          refine hK.out _ _ hSc (fun hHeld => ?_)
          clear hK K
          try simp only [Act.put, List.setIfInBounds_toArray]
          have htc : SlI wc (.slice At tl.length ct) tl := ht.below hbc
          have hdc : SlI wc (.slice Ad dl.length cd) dl := hd.below hbc
          have hofr : OwnI 3 wr B2 vf free := HPE.out.of_.keepB fun g e => HR.out.fr.ot g (HPE.out.of_.lt g e).2 (by have := (HPE.out.of_.lt g e).1; have := hx.b2; omega) (by have := (HPE.out.of_.lt g e).1; have := hx.l2; omega) (fun e2 => HPE.out.dof g e2 e)
          have hofc : OwnI 3 wc B2 vf free := (hofr.keep hbrb).keepB fun g e => hg.block g ((hofr.keep hbrb).lt g e).2 (fun e2 => HPE.out.dof g e2.symm e)
          have hfrr := HPE.out.fr
          have hBb : (24480 * order.length : Int) ≤ 800000 := by have := HF.out.1; omega
          have kS := starts_ok nm _ _ vf tl dl free m _ wc htc hdc hofc.sl hjo hfrr hm.1 (by omega)
          rw [HV.out.2.1] at kS
          unfold jobV at kS
          refine wpAnyH_ready (rs := [8]) (by kernel_rfl) (by simp) ?_
          refine AllReadyH.cons rfl (fun K hK => ?_) AllReadyH.nil
          go_simp
          refine kS.mono ?_
          rintro e w3 ⟨⟨u1, rfl, hu1⟩, hb3⟩
          clear kS
          go_wp2_with fail
          refine hK.out _ _ (kk2 _ hb3) (fun hHeld => ?_)
          clear hK K
          try simp only [Act.put, List.setIfInBounds_toArray, List.set_cons_zero, List.set_cons_succ]
          have hsb := (starts_bd hjo hfrr).1
          have kE := ends_ok nm _ (.slice Ad dl.length cd) u1 tl dl (startsP tl dl free) m _ w3 (htc.below hb3) hu1.sl hjo hsb (by omega)
          unfold jobV at kE
          refine wpAnyH_ready (rs := [9]) (by kernel_rfl) (by simp) ?_
          refine AllReadyH.cons rfl (fun K hK => ?_) AllReadyH.nil
          go_simp
          refine kE.mono ?_
          rintro e w4 ⟨⟨u2, rfl, hu2⟩, hb4⟩
          clear kE
          have hb34 := hb3.trans (hb4.mono hb3.size)
          go_wp2_with fail
          refine hK.out _ _ (kk2 _ hb34) (fun hHeld => ?_)
          clear hK K
          try simp only [Act.put, List.setIfInBounds_toArray, List.set_cons_zero, List.set_cons_succ]
          obtain ⟨vk, hst, hvk⟩ := HR.out.st
          have hvkl : ∀ g, vk.ownBlock = some g → B2 ≤ g ∧ g < wr.heap.size := fun g e => by
            rcases hvk with rfl | h
            · exact ⟨(HPE.out.lb g e).1, HVR.out g e⟩
            · exact ⟨Nat.le_trans HPE.out.ev.sz (h g e).1, (h g e).2⟩
          have hvkd : ∀ g, vo.ownBlock = some g → vk.ownBlock ≠ some g := fun g e e2 => by
            rcases hvk with rfl | h
            · exact HPE.out.dob g e e2
            · have := (h g e2).1
              have := (HPE.out.oo.lt g e).2
              omega
          have hf4 : FrX w1.heap.size bb bl vo wr w4 := hfc.trans (FrX.of_below hbc.size hb34)
          have hbl : ∀ g, vo.ownBlock = some g → B2 ≤ g := fun g e => (HPE.out.oo.lt g e).1
          have hstL : bb < wr.heap.size ∧ bl < wr.heap.size := ⟨by have := hx.b2; omega, by have := hx.l2; omega⟩
          have hkeep : ∀ g, g < wr.heap.size → vo.ownBlock ≠ some g → w4.heap[g]? = wr.heap[g]? := fun g h1 h2 => (hb34.block g (Nat.lt_of_lt_of_le h1 (Nat.le_trans hbrb.size hg.size))).trans ((hg.block g (Nat.lt_of_lt_of_le h1 hbrb.size) (fun e => h2 e.symm)).trans (hbrb.block g h1))
          have hob : ∀ g, (Value.slice A2 (order.length + 1) c2).ownBlock = some g → vo.ownBlock = some g ∨ g = wb.heap.size := fun g e => by
            rcases hcase with ⟨g', h1, h2⟩ | h1
            · rw [h1] at e
              rw [h2]
              exact .inl e
            · rw [h1] at e
              exact .inr (Option.some.inj e).symm
          have hrb : wr.heap.size ≤ wb.heap.size := hbrb.size
          have hown4 : OwnI 3 w4 B2 (.slice A2 (order.length + 1) c2) (ints (order ++ [k])) := by
            rw [← ints_snoc]
            exact hown.keep hb34
          have hcb := hg.size
          have hP4 : PreB js m w1 B2 bb bl bj bx vl (order ++ [k]) (goJ (nm, tl, dl) free) (preX js f order free s k) (.slice A2 (order.length + 1) c2) u2 vk w4 := by
            refine ⟨(HPE.out.ev.fr hx HR.out.fr hbl).fr hx hf4 hbl, ?_, hown4, hu2.lower (by have := hb3.size; omega), ?_, ?_, ?_, ?_⟩
            · exact hst.keep (hkeep bb hstL.1 (fun e => by have := hbl bb e; have := hx.b2; omega)) (hkeep bl hstL.2 (fun e => by have := hbl bl e; have := hx.l2; omega)) fun g e => hkeep g (hvkl g e).2 (fun e2 => hvkd g e2 e)
            · intro g e e2
              have h1 := (hown.lt g e).2
              have h2 := (hu2.lt g e2).1
              have := hb3.size
              omega
            · intro g e e2
              rcases hob g e with h | h
              · exact hvkd g h e2
              · have := (hvkl g e2).2
                omega
            · exact fun g e => ⟨(hvkl g e).1, by have := (hvkl g e).2; have := hb34.size; omega⟩
            · have := (go_bd hjo hfrr).1
              rw [List.length_append, List.length_singleton]
              refine ⟨this.1, fun i => ⟨(this.2 i).1, ?_⟩⟩
              have := (this.2 i).2
              omega
          have kI := IH (order ++ [k]) (goJ (nm, tl, dl) free) (preX js f order free s k) (.slice A2 (order.length + 1) c2) u2 vk w4 (by rw [List.length_append, List.length_singleton]; have := HF.out.1; omega) (by rw [List.length_append, List.length_singleton]; have := HF.out.2; omega) hP4
          unfold ptrN at kI
          have hrj4 : RowK w4 132 wr.heap.size [.string nm, .slice At tl.length ct, .slice Ad dl.length cd] := ((rJ.below hbb).keep (hg.block _ (rJ.below hbb).lt (fun e => by have := hvb4 _ e.symm; omega))).below hb34
          refine wpAnyH_ready (rs := [10]) (by kernel_rfl) (by simp) ?_
          refine AllReadyH.cons rfl (fun K hK => ?_) AllReadyH.nil
          unfold extV ptrN
          go_simp
          refine kI.mono ?_
          rintro e w5 hPost
          obtain ⟨rfl, hfr5, hoo5, vb5, hst5, hv5⟩ := hPost
          clear kI
          have hrl4 : wr.heap.size < w4.heap.size := hrj4.lt
          have hF5 : FrX w1.heap.size bb bl vo wr w5 := ⟨hf4.be.trans hfr5.be, fun g hg1 h1 h2 h3 => (hfr5.ot g (by omega) h1 h2 (fun e => by
            rcases hob g e with h | h
            · exact h3 h
            · omega)).trans (hf4.ot g hg1 h1 h2 h3)⟩
          have hS5 : w5.cell? ⟨bx, 0, none⟩ = some (extV bb bl bj bx) ∧ w5.cell? ⟨wr.heap.size, 0, none⟩ = some (.string nm) ∧ w5.cell? ⟨wr.heap.size, 1, none⟩ = some (.slice At tl.length ct) ∧ w5.cell? ⟨wr.heap.size, 2, none⟩ = some (.slice Ad dl.length cd) := by
            have hxe := (HPE.out.ev.fr hx HR.out.fr hbl).fr hx hF5 hbl
            have hrj : RowK w5 132 wr.heap.size [.string nm, .slice At tl.length ct, .slice Ad dl.length cd] := hrj4.keep (hfr5.ot _ hrl4 (by omega) (by omega) (fun e => by
              rcases hob _ e with h | h
              · have := hvb4 _ h; omega
              · have := (rJ.below hbb).lt; omega))
            exact ⟨hxe.lx.cell (by rfl), hrj.cell (by rfl), hrj.cell (by rfl), hrj.cell (by rfl)⟩
          have hO5 : OwnI 3 w5 B2 vo (ints order) := by
            rcases hcase with ⟨g', h1, h2⟩ | h1
            · subst h1
              rw [h2]
              rw [← ints_snoc] at hoo5
              have e1 : order.length + 1 = (ints order).length + [(k : Int)].length := by rw [hil, List.length_singleton]
              rw [e1] at hoo5
              exact hoo5.prefix_ hil.symm
            · exact (hol2.keep hb34).keepB fun g e => hfr5.ot g ((hol2.keep hb34).lt g e).2 (by have := hbl g e; have := hx.b2; omega) (by have := hbl g e; have := hx.l2; omega) (fun e2 => by
                have hg1 := hvb4 g e
                rw [h1] at e2
                have := Option.some.inj e2
                simp only at this
                omega)
          have hnext : preX js f order free s (k + 1) = expl js f (order ++ [k]) (goJ (nm, tl, dl) free) (preX js f order free s k) := by
            rw [preX_succ]
            unfold bodyX
            rw [if_neg hmem, hjk]
            rfl
          have hRn : RoB js w1 B2 bb bl order vo vb w (preX js f order free s (k + 1)) w5 := by
            rw [hnext]
            refine ⟨HR.out.fr.trans hF5, hO5, vb5, hst5, ?_⟩
            have hwr := HR.out.fr.be.size
            have hs5 := hfr5.be.size
            rcases hv5 with rfl | h5
            · rcases hvk with h | h
              · exact .inl h
              · exact .inr fun g e => ⟨(h g e).1, by have := (h g e).2; omega⟩
            · exact .inr fun g e => ⟨by have := (h5 g e).1; omega, (h5 g e).2⟩
          have HRN := Lib.hid hRn
          go_wp2_with fail
          refine hK.out _ _ hS5 (fun _ => ?_)
          clear hK K
          refine wpAnyH_done (by kernel_rfl) ?_ _
          clear hRn hnext hO5 hS5 hF5 hrl4 hst5 hv5 hoo5 hfr5 hrj4 hP4 hown4 hown hcase hob hkeep hst hvk hvkl hvkd hf4 hcb hrb hbl hstL
          go_wp2_with fail
          go_roundw
          case rel => exact ⟨k + 1, HK.out, by simp, HRN.out⟩
          case measure => exact HM.out
      · have hfin : PostB js w1 B2 bb bl order (preX js f order free s js.length) vo vb w (.returned (.tuple #[])) wr := ⟨rfl, hR.fr, hR.oo, hR.st⟩
        rw [HV.out.1] at hfin
        have HFN := Lib.hid hfin
        clear hfin hR
        go_wp2_with fail
        exact bodyPost_ret (results_none rfl _ _ _) rfl HFN.out
end Go.Proofs
