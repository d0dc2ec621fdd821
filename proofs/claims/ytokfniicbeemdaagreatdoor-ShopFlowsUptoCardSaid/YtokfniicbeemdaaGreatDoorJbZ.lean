/- Jobs: CheckStarts of the reference. -/
import Derived.Test.YtokfniicbeemdaaGreatDoorJbY
namespace Go.Proofs
open Go.RowKit Go.MapKept
set_option maxHeartbeats 16000000
set_option maxRecDepth 1000000
theorem orL_3 : ∀ {l : List Int}, (∀ e ∈ l, e = 0 ∨ e = 3) → 3 ∈ l → orL l = 3
  | [], _, h => by simp at h
  | y :: l, h, h3 => by
    unfold orL
    rcases h y (by simp) with rfl | rfl
    · rw [if_neg (fun h => h rfl)]
      exact orL_3 (fun e he => h e (by simp [he])) (by simpa using h3)
    · rw [if_pos (by decide)]
theorem numE_3 {S : List (List Int)} {n m k q : Nat} {x : List Int} {y : Int} (hn : S.length = n) (h : ∀ (k : Nat) (x : List Int), S[k]? = some x → x.length = m) (hx : S[k]? = some x) (hy : x[q]? = some y) (hw : withinI y 0 999999999 ≠ 0) : numE S n m = 3 := by
  rw [numE_c hn h]
  refine orL_3 (fun e he => ?_) (List.mem_map.2 ⟨x, List.mem_of_getElem? hx, allE_bad hy hw⟩)
  obtain ⟨z, -, rfl⟩ := List.mem_map.1 he
  exact allE_or z 0 999999999
theorem numE_good {S : List (List Int)} {n m : Nat} (hn : S.length = n) (h : ∀ (k : Nat) (x : List Int), S[k]? = some x → x.length = m) (hw : ∀ (k : Nat) (x : List Int), S[k]? = some x → ∀ (q : Nat) (y : Int), x[q]? = some y → withinI y 0 999999999 = 0) : numE S n m = 0 := by
  rw [numE_c hn h]
  refine orL_eq0.2 fun e he => ?_
  obtain ⟨z, hz, rfl⟩ := List.mem_map.1 he
  obtain ⟨k, hk⟩ := List.mem_iff_getElem?.1 hz
  exact allE_good (hw k z hk)
def HitN (js : List JobT) (S : List (List Int)) (i q s : Nat) : Prop := ∃ a c : UseT, (useK js S s)[i]? = some a ∧ (useK js S s)[q]? = some c ∧ HitU a c
theorem refStarts_ok (js : List JobT) (S : List (List Int)) (v vs : Value) (w : World) (hl : SlJ w v js) (hS : SlLL w vs S) (hx : JobX js 0) (_hn : S.length ≤ 1000) (hns : ∀ x ∈ S, x.length ≤ 1000) :
    Calls Tryz.prog 37 #[v, vs] w fun e w' => (∃ c n : Int, e = .returned (.tuple #[.int .i64 c, .int .i64 n]) ∧ StartsX js S c n) ∧ Below w.heap.size w w' := by
  have ok := hx.ok
  have hpos := ok.pos
  have hfew := ok.few
  obtain ⟨Av, cv, rfl⟩ := hS.form
  have HL := Lib.hid hl
  obtain ⟨bJ, oJ, cap, rfl, hbJ, hat⟩ := hl.addr hpos
  have hB0 := Below.refl w.heap.size w
  have HNE : RowKit.Hid (∀ e : Int, numE S js.length (stN js) = e → e ≠ 0 → StartsX js S 0 e) := Lib.hid fun e h h2 => .inl ⟨by rw [h]; exact h2, rfl, h.symm⟩
  by_cases hSn : S.length = js.length
  case neg =>
    have hb1 : ((S.length : Int) != (js.length : Int)) = true := by simp; omega
    have HE := Lib.hid (HNE.out 2 (numE_a hSn) (by decide))
    clear hSn hx ok HNE hl hat hns
    go_enter Tryz.func37, Tryz.ntmps37
    go_wp2_with fail
    go_ret2
    exact ⟨⟨_, _, rfl, HE.out⟩, hB0⟩
  case pos =>
  rw [hSn] at hS ⊢
  have HSN := Lib.hid hSn
  have HOK := Lib.hid ok
  have HAT := Lib.hid hat
  have HNS := Lib.hid hns
  have HSS := Lib.hid hS
  have hm8 : 0 < stN js ∧ stN js ≤ 8 := by
    obtain ⟨j0, hj0⟩ : ∃ j, js[0]? = some j := ⟨_, List.getElem?_eq_getElem hpos⟩
    have hjo0 := ok.ok _ (List.mem_of_getElem? hj0)
    have h1 := hjo0.d
    have h2 := hjo0.few
    omega
  have HM8 := Lib.hid hm8
  clear hSn ok hat hns hS hx hl hm8
  go_enter Tryz.func37, Tryz.ntmps37
  go_wp2_with fail
  go_loopw [6] (fun i wr => ∃ k : Nat, k ≤ js.length ∧ i = .int .i64 k ∧ (∀ (q : Nat) (x : List Int), q < k → S[q]? = some x → x.length = stN js) ∧ Below w.heap.size w wr) (fun i _ => js.length - (intOf i).toNat)
  case atStart => exact ⟨0, Nat.zero_le _, rfl, fun q x h => absurd h (Nat.not_lt_zero q), hB0⟩
  case round =>
    clear hB0
    obtain ⟨k, hk, rfl, hp, hX⟩ := hrel
    rename World => w3
    have HP := Lib.hid hp
    clear hp
    rcases Nat.lt_or_eq_of_le hk with hkn | rfl
    · obtain ⟨⟨nm, tl, dl⟩, hc⟩ : ∃ j, js[k]? = some j := ⟨_, List.getElem?_eq_getElem hkn⟩
      obtain ⟨vt, vd, j0, j1, j2, ht, hd⟩ := HAT.out k _ hc
      have hjt := (HOK.out.ok _ (List.mem_of_getElem? hc)).t
      dsimp only at j0 j1 j2 ht hd hjt
      obtain ⟨At, ct, rfl⟩ := ht.form
      have r1 := (hX.cell (p := ⟨bJ, oJ + k * 3 + 1, none⟩) hbJ).trans j1
      obtain ⟨bS, oS, x, Ax, cx, rfl, hbS, hxk, rS, hxs⟩ := (HSS.out.below hX).cells (k := k) (by have := HSN.out; omega)
      have hi0 : (0 : Int) ≤ k := by omega
      have hi1 : (k : Int) < js.length := by omega
      have HK := Lib.hid (show k + 1 ≤ js.length from hkn)
      have HM := Lib.hid (show js.length - (k + 1) < js.length - k by omega)
      obtain ⟨wk1, wk2⟩ := wrapsV (show k < 1048576 by omega)
      have HXK := Lib.hid hxk
      have HJT := Lib.hid hjt
      have HX := Lib.hid (below_drewN hX)
      obtain ⟨b1, hb1⟩ : ∃ b, ((x.length : Int) != (tl.length : Int)) = b := ⟨_, rfl⟩
      clear hc hxk hxs ht hd j0 j1 j2 hX hjt
      go_wp2_with fail
      go_quiet (fail)
      cases b1 with
      | true =>
        have hE := HNE.out 2 (numE_b (k := k) HXK.out (by rw [← HJT.out]; simp at hb1; omega)) (by decide)
        have HE := Lib.hid hE
        clear hE
        go_wp2_with fail
        go_ret2
        exact ⟨⟨_, _, rfl, HE.out⟩, HX.out _⟩
      | false =>
        have HN2 : RowKit.Hid (∀ (q : Nat) (x : List Int), q < k + 1 → S[q]? = some x → x.length = stN js) := Lib.hid fun q z h1 h2 => by
          rcases Nat.lt_or_eq_of_le (Nat.le_of_lt_succ h1) with h3 | rfl
          · exact HP.out q z h3 h2
          · obtain rfl := Option.some.inj (HXK.out.symm.trans h2)
            rw [← HJT.out]
            simp at hb1
            omega
        go_wp2_with fail
        go_roundw
        case rel => exact ⟨k + 1, HK.out, by simp, HN2.out, HX.out _⟩
        case measure => exact HM.out
    · have HLN : RowKit.Hid (∀ (q : Nat) (x : List Int), S[q]? = some x → x.length = stN js) := Lib.hid fun q x h => HP.out q x (by have := HSN.out; have := (List.getElem?_eq_some_iff.1 h).1; omega) h
      clear HP
      go_wp2_with fail
      go_loopw [7] (fun i wr => ∃ k : Nat, k ≤ js.length ∧ i = .int .i64 k ∧ (∀ (q : Nat) (x : List Int), q < k → S[q]? = some x → ∀ (p : Nat) (y : Int), x[p]? = some y → withinI y 0 999999999 = 0) ∧ Below w.heap.size w wr) (fun i _ => js.length - (intOf i).toNat)
      case atStart => exact ⟨0, Nat.zero_le _, rfl, fun q x h => absurd h (Nat.not_lt_zero q), hX⟩
      case round =>
        clear hX
        obtain ⟨k, hk, rfl, hp, hX⟩ := hrel
        rename World => w4
        have HP := Lib.hid hp
        clear hp
        rcases Nat.lt_or_eq_of_le hk with hkn | rfl
        · obtain ⟨x, hxk⟩ : ∃ x, S[k]? = some x := ⟨_, List.getElem?_eq_getElem (by have := HSN.out; omega)⟩
          have hi0 : (0 : Int) ≤ k := by omega
          have hi1 : (k : Int) < js.length := by omega
          have HK := Lib.hid (show k + 1 ≤ js.length from hkn)
          have HM := Lib.hid (show js.length - (k + 1) < js.length - k by omega)
          have HWK := Lib.hid (wrapsV (show k < 1048576 by omega))
          have HXK := Lib.hid hxk
          have hxl : x.length ≤ 8 := by have h1 := HLN.out k x hxk; have h2 := HM8.out; omega
          have HXL := Lib.hid hxl
          clear hxk hxl
          go_wp2_with fail
          go_loopw [8] (fun i wr => ∃ p : Nat, p ≤ x.length ∧ i = .int .i64 p ∧ (∀ (q : Nat) (y : Int), q < p → x[q]? = some y → withinI y 0 999999999 = 0) ∧ Below w.heap.size w wr) (fun i _ => x.length - (intOf i).toNat)
          case atStart => exact ⟨0, Nat.zero_le _, rfl, fun q x h => absurd h (Nat.not_lt_zero q), hX⟩
          case round =>
            clear hX
            obtain ⟨p, hpp, rfl, hq, hX⟩ := hrel
            rename World => w5
            have HQ := Lib.hid hq
            clear hq
            obtain ⟨bS, oS, x2, Ax, cx, e5, hbS, hxk2, rS, hxs⟩ := (HSS.out.below hX).cells (k := k) (by have := HSN.out; omega)
            subst e5
            obtain rfl := Option.some.inj (HXK.out.symm.trans hxk2)
            rcases Nat.lt_or_eq_of_le hpp with hpn | rfl
            · obtain ⟨bx, ox, y, rfl, -, hbx, hy, ry⟩ := hxs.cells hpn
              have kg := fun W => refRange9_ok y 0 999999999 W
              have hj0 : (0 : Int) ≤ p := by omega
              have hj1 : (p : Int) < x.length := by omega
              have HPK := Lib.hid (show p + 1 ≤ x.length from hpn)
              have HPM := Lib.hid (show x.length - (p + 1) < x.length - p by omega)
              obtain ⟨wp1, wp2⟩ := wrapsV (show p < 1048576 by have := HXL.out; omega)
              have HY := Lib.hid hy
              obtain ⟨ew, hew⟩ : ∃ ew, ew = withinI y 0 999999999 := ⟨_, rfl⟩
              rw [← hew] at kg
              have HEW := Lib.hid hew
              clear hew hy hxk2 hxs
              by_cases hz : ew = 0
              · have hnz : (ew != 0) = false := by simpa using hz
                have HS1 : RowKit.Hid (∀ (q : Nat) (y : Int), q < p + 1 → x[q]? = some y → withinI y 0 999999999 = 0) := Lib.hid fun i z h1 h2 => by
                  rcases Nat.lt_or_eq_of_le (Nat.le_of_lt_succ h1) with h3 | rfl
                  · exact HQ.out i z h3 h2
                  · obtain rfl := Option.some.inj (HY.out.symm.trans h2)
                    rw [← HEW.out]
                    exact hz
                clear hz
                go_wp2_with (go_at_call 59; refine (kg _).mono ?_; rintro e v5 ⟨rfl, hv5⟩; obtain rfl := hv5)
                go_roundw
                case rel => exact ⟨p + 1, HPK.out, by simp, HS1.out, hX⟩
                case measure => exact HPM.out
              · have hnz : (ew != 0) = true := by simpa using hz
                have hE := HNE.out 3 (numE_3 HSN.out HLN.out HXK.out HY.out (by rw [← HEW.out]; exact hz)) (by decide)
                have HE := Lib.hid hE
                clear hE hz
                go_wp2_with (go_at_call 59; refine (kg _).mono ?_; rintro e v5 ⟨rfl, hv5⟩; obtain rfl := hv5)
                go_ret2
                exact ⟨⟨_, _, rfl, HE.out⟩, hX⟩
            · have HN2 : RowKit.Hid (∀ (q : Nat) (z : List Int), q < k + 1 → S[q]? = some z → ∀ (p : Nat) (y : Int), z[p]? = some y → withinI y 0 999999999 = 0) := Lib.hid fun q z h1 h2 p y h4 => by
                rcases Nat.lt_or_eq_of_le (Nat.le_of_lt_succ h1) with h3 | rfl
                · exact HP.out q z h3 h2 p y h4
                · obtain rfl := Option.some.inj (HXK.out.symm.trans h2)
                  exact HQ.out p y (List.getElem?_eq_some_iff.1 h4).1 h4
              obtain ⟨wk1, wk2⟩ := HWK.out
              clear hxk2 hxs
              go_wp2_with fail
              go_roundw
              case rel => exact ⟨k + 1, HK.out, by simp, HN2.out, hX⟩
              case measure => exact HM.out
        · have hN0 := numE_good HSN.out HLN.out (fun q x h => HP.out q x (by have := HSN.out; have := (List.getElem?_eq_some_iff.1 h).1; omega) h)
          have HN0 := Lib.hid hN0
          clear hN0 HP HNE
          go_wp2_with fail
          go_loopw [9] (fun i wr => ∃ k : Nat, k ≤ js.length ∧ i = .int .i64 k ∧ (∀ (q : Nat) (j : JobT) (x : List Int), q < k → js[q]? = some j → S[q]? = some x → ¬ Early j.2.1 j.2.2 x) ∧ Below w.heap.size w wr) (fun i _ => js.length - (intOf i).toNat)
          case atStart => exact ⟨0, Nat.zero_le _, rfl, fun p j x h => absurd h (Nat.not_lt_zero p), hX⟩
          case round =>
            clear hX
            obtain ⟨k, hk, rfl, hp, hX⟩ := hrel
            rename World => w6
            have HP := Lib.hid hp
            clear hp
            rcases Nat.lt_or_eq_of_le hk with hkn | rfl
            · obtain ⟨⟨nm, tl, dl⟩, hc⟩ : ∃ j, js[k]? = some j := ⟨_, List.getElem?_eq_getElem hkn⟩
              obtain ⟨vt, vd, j0, j1, j2, ht, hd⟩ := HAT.out k _ hc
              have hjo := HOK.out.ok _ (List.mem_of_getElem? hc)
              dsimp only at j0 j1 j2 ht hd
              obtain ⟨At, ct, rfl⟩ := ht.form
              obtain ⟨Ad, cd, rfl⟩ := hd.form
              obtain ⟨x, hxk⟩ : ∃ x, S[k]? = some x := ⟨_, List.getElem?_eq_getElem (by have := HSN.out; omega)⟩
              have hxm := HLN.out k x hxk
              have hxb : ∀ y ∈ x, 0 ≤ y ∧ y ≤ 999999999 := ((numE_0 HN0.out).2 x (List.mem_of_getElem? hxk)).2
              have hi0 : (0 : Int) ≤ k := by omega
              have hi1 : (k : Int) < js.length := by omega
              have HK := Lib.hid (show k + 1 ≤ js.length from hkn)
              have HM := Lib.hid (show js.length - (k + 1) < js.length - k by omega)
              have HWK := Lib.hid (wrapsV (show k < 1048576 by omega))
              have HC := Lib.hid hc
              have HXK := Lib.hid hxk
              have HXM := Lib.hid hxm
              have HXB := Lib.hid hxb
              have HJO := Lib.hid hjo
              have HJ := Lib.hid (And.intro j1 j2)
              have HTD := Lib.hid (And.intro ht hd)
              have HJX : RowKit.Hid (∀ z : Nat, z + 1 < x.length → at0 x (z + 1) < at0 x z + at0 tl z + at0 dl z → Early tl dl x) := Lib.hid fun z h1 h2 => ⟨z, h1, h2⟩
              clear hc hxk hxm hxb hjo j0 j1 j2 ht hd
              go_wp2_with fail
              go_loopw [10] (fun i wr => ∃ q : Nat, q + 1 ≤ stN js ∧ i = .int .i64 ((q : Int) + 1) ∧ (∀ r : Nat, r < q → ¬ at0 x (r + 1) < at0 x r + at0 tl r + at0 dl r) ∧ Below w.heap.size w wr) (fun i _ => stN js + 1 - (intOf i).toNat)
              case atStart => exact ⟨0, HM8.out.1, rfl, fun q h => absurd h (Nat.not_lt_zero q), hX⟩
              case round =>
                clear hX
                obtain ⟨q, hq, rfl, hr, hX⟩ := hrel
                rename World => w7
                have HR := Lib.hid hr
                clear hr
                obtain ⟨bS, oS, x2, Ax, cx, e5, hbS, hxk2, rS, hxs⟩ := (HSS.out.below hX).cells (k := k) (by have := HSN.out; omega)
                subst e5
                obtain rfl := Option.some.inj (HXK.out.symm.trans hxk2)
                clear hxk2
                have hm8 := HM8.out
                have hxm := HXM.out
                rcases Nat.lt_or_eq_of_le hq with hqn | hqe
                · obtain ⟨bx, ox, y, rfl, -, hbx, hy, ry⟩ := hxs.cells (k := q) (by omega)
                  obtain ⟨bx', ox', y2, e6, -, -, hy2, ry2⟩ := hxs.cells (k := q + 1) (by omega)
                  obtain ⟨rfl, rfl⟩ : bx = bx' ∧ ox = ox' := by injection e6 with e6; injection e6 with e7 e8; exact ⟨e7, e8⟩
                  obtain ⟨bt, ot, z, rfl, -, hbt, hz, rz⟩ := (HTD.out.1.below hX).cells (k := q) (by have := HJO.out.t; dsimp only at this; omega)
                  obtain ⟨bd, od, u, rfl, -, hbd, hu, ru⟩ := (HTD.out.2.below hX).cells (k := q) (by have := HJO.out.d; dsimp only at this; omega)
                  have r1 := (hX.cell (p := ⟨bJ, oJ + k * 3 + 1, none⟩) hbJ).trans HJ.out.1
                  have r2 := (hX.cell (p := ⟨bJ, oJ + k * 3 + 2, none⟩) hbJ).trans HJ.out.2
                  have hyb := HXB.out y (List.mem_of_getElem? hy)
                  have hzb := HJO.out.tb z (List.mem_of_getElem? hz)
                  have hub := HJO.out.db u (List.mem_of_getElem? hu)
                  have HDEC : RowKit.Hid (y2 < y + z + u ↔ at0 x (q + 1) < at0 x q + at0 tl q + at0 dl q) := Lib.hid (by rw [at0_some hy, at0_some hy2, at0_some hz, at0_some hu])
                  have hj0 : (0 : Int) ≤ q := by omega
                  have hj1 : (q : Int) < x.length := by omega
                  have hj2 : (q : Int) + 1 < x.length := by omega
                  have hj3 : (0 : Int) ≤ (q : Int) + 1 := by omega
                  have hj4 : (q : Int) < tl.length := by have := HJO.out.t; dsimp only at this; omega
                  have hj5 : (q : Int) < dl.length := by have := HJO.out.d; dsimp only at this; omega
                  have HQK := Lib.hid (show q + 1 + 1 ≤ stN js from hqn)
                  have HQM := Lib.hid (show stN js + 1 - (q + 1 + 1) < stN js + 1 - (q + 1) by omega)
                  have HQX := Lib.hid (show q + 1 < x.length by omega)
                  have HW1 := Lib.hid (wrapsJ (j := q) (n := 8) (by omega) (by omega))
                  have HW2 := Lib.hid (wrapC2 (n := y + z) (by omega))
                  have HW3 := Lib.hid (wrapC2 (n := y + z + u) (by omega))
                  have HW4 := Lib.hid (show wrap64 ((q : Int) + 1 + 1) = (q : Int) + 1 + 1 ∧ IntKind.i64.wrap ((q : Int) + 1 + 1) = (q : Int) + 1 + 1 from ⟨wrap64_small (by omega), wrap_small (by omega)⟩)
                  obtain ⟨zb, hzb2⟩ : ∃ zb, decide (y2 < y + z + u) = zb := ⟨_, rfl⟩
                  have HX := Lib.hid (below_drewN hX)
                  obtain ⟨wa1, wa2, wa3, wa4, wa5, wa6⟩ := HW1.out
                  obtain ⟨wb1, wb2⟩ := HW2.out
                  obtain ⟨wc1, wc2⟩ := HW3.out
                  obtain ⟨wd1, wd2⟩ := HW4.out
                  clear hy hy2 hz hu hyb hzb hub hxs hX hm8 hxm
                  go_wp2_with fail
                  go_quiet (fail)
                  cases zb with
                  | true =>
                    have hE : StartsX js S 0 11 := .inr ⟨HN0.out, .inl ⟨⟨k, _, x, HC.out, HXK.out, HJX.out q HQX.out (HDEC.out.1 (of_decide_eq_true hzb2))⟩, rfl, rfl⟩⟩
                    have HE := Lib.hid hE
                    clear hE
                    go_wp2_with fail
                    go_ret2
                    exact ⟨⟨_, _, rfl, HE.out⟩, HX.out _⟩
                  | false =>
                    have HN2 : RowKit.Hid (∀ r : Nat, r < q + 1 → ¬ at0 x (r + 1) < at0 x r + at0 tl r + at0 dl r) := Lib.hid fun r h1 => by
                      rcases Nat.lt_or_eq_of_le (Nat.le_of_lt_succ h1) with h3 | rfl
                      · have h4 := HR.out r h3
                        first | exact h4 | exact Int.not_lt.2 h4 | exact Int.not_lt.1 h4
                      · have h4 : ¬ at0 x (r + 1) < at0 x r + at0 tl r + at0 dl r := fun h => of_decide_eq_false hzb2 (HDEC.out.2 h)
                        first | exact h4 | exact Int.not_lt.2 h4 | exact Int.not_lt.1 h4
                    go_wp2_with fail
                    go_roundw
                    case rel => exact ⟨q + 1, HQK.out, by simp, (by first | exact HN2.out | exact fun r h => Int.not_lt.2 (HN2.out r h)), HX.out _⟩
                    case measure => first | exact HQM.out | (have := HQM.out; simp only [intOf]; omega)
                · have hend : decide ((q : Int) + 1 < (x.length : Int)) = false := decide_eq_false (by omega)
                  have HN2 : RowKit.Hid (∀ (p : Nat) (j : JobT) (z : List Int), p < k + 1 → js[p]? = some j → S[p]? = some z → ¬ Early j.2.1 j.2.2 z) := Lib.hid fun p j z h1 h2 h4 => by
                    rcases Nat.lt_or_eq_of_le (Nat.le_of_lt_succ h1) with h3 | rfl
                    · exact HP.out p j z h3 h2 h4
                    · obtain rfl := Option.some.inj (HC.out.symm.trans h2)
                      obtain rfl := Option.some.inj (HXK.out.symm.trans h4)
                      rintro ⟨r, h5, h6⟩
                      have h7 := HR.out r (by omega)
                      dsimp only at h6
                      omega
                  obtain ⟨wk1, wk2⟩ := HWK.out
                  clear hxs hm8 hxm hqe
                  go_wp2_with fail
                  go_roundw
                  case rel => exact ⟨k + 1, HK.out, by simp, HN2.out, hX⟩
                  case measure => exact HM.out
            · have hNE : ¬ EarlyAny js S := by
                rintro ⟨q, j, x, h1, h2, h3⟩
                exact HP.out q j x (List.getElem?_eq_some_iff.1 h1).1 h1 h2 h3
              have HNEA := Lib.hid hNE
              clear hNE HP
              have HT : RowKit.Hid (StartsX js S (endL (useK js S (stN js - 1)) js.length) 0 ∨ HitAny js S (stN js)) := Lib.hid (by
                by_cases h : HitAny js S (stN js)
                · exact .inr h
                · exact .inl (.inr ⟨HN0.out, .inr ⟨HNEA.out, .inr ⟨h, rfl, rfl⟩⟩⟩))
              have HE16 : RowKit.Hid (HitAny js S (stN js) → StartsX js S 0 16) := Lib.hid fun h => .inr ⟨HN0.out, .inr ⟨HNEA.out, .inl ⟨h, rfl, rfl⟩⟩⟩
              have HXS : RowKit.Hid (∀ x ∈ S, x.length = stN js ∧ ∀ y ∈ x, 0 ≤ y ∧ y ≤ 999999999) := Lib.hid (numE_0 HN0.out).2
              clear HN0 HNEA
              go_wp2_with fail
              go_loopw [11] (fun i wr => ∃ k : Nat, k ≤ js.length ∧ i = .int .i64 k ∧ (∀ (p q s : Nat), p < k → q < p → s < stN js → ¬ HitN js S p q s) ∧ Below w.heap.size w wr) (fun i _ => js.length - (intOf i).toNat)
              case atStart => exact ⟨0, Nat.zero_le _, rfl, fun p q s h => absurd h (Nat.not_lt_zero p), hX⟩
              case round =>
                clear hX
                obtain ⟨k, hk, rfl, hp, hX⟩ := hrel
                rename World => w6
                have HP := Lib.hid hp
                clear hp
                rcases Nat.lt_or_eq_of_le hk with hkn | rfl
                · have HK := Lib.hid (show k + 1 ≤ js.length from hkn)
                  have HM := Lib.hid (show js.length - (k + 1) < js.length - k by omega)
                  have HWK := Lib.hid (wrapsV (show k < 1048576 by omega))
                  have hi0 : (0 : Int) ≤ k := by omega
                  have hi1 : (k : Int) < js.length := by omega
                  go_wp2_with fail
                  go_loopw [12] (fun i wr => ∃ q : Nat, q ≤ k ∧ i = .int .i64 q ∧ (∀ (p s : Nat), p < q → s < stN js → ¬ HitN js S k p s) ∧ Below w.heap.size w wr) (fun i _ => k - (intOf i).toNat)
                  case atStart => exact ⟨0, Nat.zero_le _, rfl, fun p s h => absurd h (Nat.not_lt_zero p), hX⟩
                  case round =>
                    clear hX
                    obtain ⟨q, hq, rfl, hr, hX⟩ := hrel
                    rename World => w7
                    have HR := Lib.hid hr
                    clear hr
                    rcases Nat.lt_or_eq_of_le hq with hqn | rfl
                    · have HQK := Lib.hid (show q + 1 ≤ k from hqn)
                      have HQM := Lib.hid (show k - (q + 1) < k - q by omega)
                      have HWQ := Lib.hid (wrapsV (show q < 1048576 by omega))
                      have hq0 : (0 : Int) ≤ q := by omega
                      have hq1 : (q : Int) < js.length := by omega
                      have hqk : (q : Int) < k := by omega
                      go_wp2_with fail
                      go_loopw [13] (fun i wr => ∃ s : Nat, s ≤ stN js ∧ i = .int .i64 s ∧ (∀ (r : Nat), r < s → ¬ HitN js S k q r) ∧ Below w.heap.size w wr) (fun i _ => stN js - (intOf i).toNat)
                      case atStart => exact ⟨0, Nat.zero_le _, rfl, fun p h => absurd h (Nat.not_lt_zero p), hX⟩
                      case round =>
                        clear hX
                        obtain ⟨s, hs, rfl, hh, hX⟩ := hrel
                        rename World => w8
                        have HH := Lib.hid hh
                        clear hh
                        obtain ⟨⟨nm, tl, dl⟩, hc⟩ : ∃ j, js[k]? = some j := ⟨_, List.getElem?_eq_getElem hkn⟩
                        obtain ⟨⟨nm', tl', dl'⟩, hc'⟩ : ∃ j, js[q]? = some j := ⟨_, List.getElem?_eq_getElem (by omega)⟩
                        obtain ⟨vt, vd, j0, j1, j2, ht, hd⟩ := HAT.out k _ hc
                        obtain ⟨vt', vd', j0', j1', j2', ht', hd'⟩ := HAT.out q _ hc'
                        have hjo := HOK.out.ok _ (List.mem_of_getElem? hc)
                        have hjo' := HOK.out.ok _ (List.mem_of_getElem? hc')
                        dsimp only at j0 j1 j2 ht hd j0' j1' j2' ht' hd'
                        obtain ⟨At, ct, rfl⟩ := ht.form
                        obtain ⟨At', ct', rfl⟩ := ht'.form
                        have r1 := (hX.cell (p := ⟨bJ, oJ + k * 3 + 1, none⟩) hbJ).trans j1
                        have r1' := (hX.cell (p := ⟨bJ, oJ + q * 3 + 1, none⟩) hbJ).trans j1'
                        have htl : tl.length = stN js := hjo.t
                        have htl' : tl'.length = stN js := hjo'.t
                        rcases Nat.lt_or_eq_of_le hs with hsn | rfl
                        · obtain ⟨bS, oS, x, Ax, cx, e5, hbS, hxk, rS, hxs⟩ := (HSS.out.below hX).cells (k := k) (by have := HSN.out; omega)
                          obtain ⟨bS', oS', x', Ax', cx', e6, -, hxk', rS', hxs'⟩ := (HSS.out.below hX).cells (k := q) (by have := HSN.out; omega)
                          subst e5
                          obtain ⟨rfl, rfl⟩ : bS = bS' ∧ oS = oS' := by injection e6 with e6; injection e6 with e7 e8; exact ⟨e7, e8⟩
                          have hxo := HXS.out x (List.mem_of_getElem? hxk)
                          have hxo' := HXS.out x' (List.mem_of_getElem? hxk')
                          obtain ⟨bx, ox, y, rfl, -, hbx, hy, ry⟩ := hxs.cells (k := s) (by omega)
                          obtain ⟨bx', ox', y', rfl, -, hbx', hy', ry'⟩ := hxs'.cells (k := s) (by omega)
                          obtain ⟨bt, ot, z, rfl, -, hbt, hz, rz⟩ := (ht.below hX).cells (k := s) (by omega)
                          obtain ⟨bt', ot', z', rfl, -, hbt', hz', rz'⟩ := (ht'.below hX).cells (k := s) (by omega)
                          have hyb := hxo.2 y (List.mem_of_getElem? hy)
                          have hyb' := hxo'.2 y' (List.mem_of_getElem? hy')
                          have hzb := hjo.tb z (List.mem_of_getElem? hz)
                          have hzb' := hjo'.tb z' (List.mem_of_getElem? hz')
                          have hu := useK_at (s := s) hc hxk
                          have hu' := useK_at (s := s) hc' hxk'
                          dsimp only at hu hu'
                          rw [at0_some hy, at0_some hz] at hu
                          rw [at0_some hy', at0_some hz'] at hu'
                          have HDEC : RowKit.Hid (HitN js S k q s ↔ (0 < z ∧ 0 < z' ∧ y < y' + z' ∧ y' < y + z)) := Lib.hid (by
                            rw [hit_iff y y' z z' hzb.1 hzb'.1]
                            constructor
                            · rintro ⟨a, c, h1, h2, h3⟩
                              obtain rfl := Option.some.inj (hu.symm.trans h1)
                              obtain rfl := Option.some.inj (hu'.symm.trans h2)
                              exact h3
                            · exact fun h => ⟨_, _, hu, hu', h⟩)
                          have hs0 : (0 : Int) ≤ s := by omega
                          have hs1 : (s : Int) < tl.length := by omega
                          have hs2 : (s : Int) < tl'.length := by omega
                          have hs3 : (s : Int) < x.length := by have := hxo.1; omega
                          have hs4 : (s : Int) < x'.length := by have := hxo'.1; omega
                          have HSK := Lib.hid (show s + 1 ≤ stN js from hsn)
                          have HSMS := Lib.hid (show stN js - (s + 1) < stN js - s by omega)
                          have HWS := Lib.hid (wrapsV (show s < 1048576 by have := HM8.out; omega))
                          have HW2 := Lib.hid (wrapC2 (n := y' + z') (by omega))
                          have HW3 := Lib.hid (wrapC2 (n := y + z) (by omega))
                          have HX := Lib.hid (below_drewN hX)
                          have HX2 : RowKit.Hid (∀ n, Below w.heap.size w (w8.drewN n).drew) := Lib.hid fun n => (HX.out n).drew
                          have HHIT : RowKit.Hid (HitN js S k q s → HitAny js S (stN js)) := Lib.hid fun ⟨a, c, h1, h2, h3⟩ => ⟨s, hsn, k, q, a, c, hqn, h1, h2, h3⟩
                          have kk : ∀ V, Below w8.heap.size w8 V → V.cell? ⟨bS, oS + k, none⟩ = some (.slice (some ⟨bx, ox, none⟩) x.length cx) ∧ V.cell? ⟨bS, oS + q, none⟩ = some (.slice (some ⟨bx', ox', none⟩) x'.length cx') ∧ V.cell? ⟨bx, ox + s, none⟩ = some (.int .i64 y) ∧ V.cell? ⟨bx', ox' + s, none⟩ = some (.int .i64 y') := fun V h => ⟨(h.cell (p := ⟨bS, _, none⟩) hbS).trans rS, (h.cell (p := ⟨bS, _, none⟩) hbS).trans rS', (h.cell (p := ⟨bx, _, none⟩) hbx).trans ry, (h.cell (p := ⟨bx', _, none⟩) hbx').trans ry'⟩
                          clear hc hc' j0 j1 j2 j0' j1' j2' ht ht' hd hd' hjo hjo' hxk hxk' hxs hxs' hxo hxo' hy hy' hz hz' hyb hyb' hzb hzb' hu hu' hX htl htl' e6
                          obtain ⟨wb1, wb2⟩ := HW2.out
                          obtain ⟨wc1, wc2⟩ := HW3.out
                          go_wp2_with fail
                          go_quiet (fail)
                          rename_i nq
                          by_cases hz1 : 0 < z
                          case neg =>
                            have HZ1 := Lib.hid hz1
                            have HNO : RowKit.Hid (¬ (0 < z ∧ 0 < z' ∧ y < y' + z' ∧ y' < y + z)) := Lib.hid (by exact fun h => HZ1.out h.1)
                            have HN2 : RowKit.Hid (∀ (r : Nat), r < s + 1 → ¬ HitN js S k q r) := Lib.hid fun r h1 => by
                              rcases Nat.lt_or_eq_of_le (Nat.le_of_lt_succ h1) with h3 | rfl
                              · exact HH.out r h3
                              · exact fun h => HNO.out (HDEC.out.1 h)
                            clear hz1
                            obtain ⟨ws1, ws2⟩ := HWS.out
                            go_wp2_with fail
                            have d1 : decide ((0 : Int) < z) = false := decide_eq_false (by have := HZ1.out; omega)
                            have hD := (below_drewN (Below.refl w8.heap.size w8) nq).drew
                            refine wp_region_held_drew (S := fun V => V.cell? ⟨bS, oS + k, none⟩ = some (.slice (some ⟨bx, ox, none⟩) x.length cx) ∧ V.cell? ⟨bS, oS + q, none⟩ = some (.slice (some ⟨bx', ox', none⟩) x'.length cx') ∧ V.cell? ⟨bx, ox + s, none⟩ = some (.int .i64 y) ∧ V.cell? ⟨bx', ox' + s, none⟩ = some (.int .i64 y')) (by kernel_rfl) (kk _ hD) (fun hHeld => ?_)
                            refine held_yes 0 (some 151) (.int .i64 z) rfl rfl (by kernel_rfl) (by kernel_rfl) (by kernel_rfl) (fun _ _ _ h => h) rfl (fun w' hS => by obtain ⟨s0, s1, s2, s3⟩ := hS; go_simp) hHeld ?_
                            try simp only [Act.put, List.setIfInBounds_toArray, List.set_cons_zero, List.set_cons_succ]
                            refine held_yes 1 (some 152) (.bool false) rfl rfl (by kernel_rfl) (by kernel_rfl) (by kernel_rfl) (fun _ _ _ h => h) rfl (fun w' hS => by obtain ⟨s0, s1, s2, s3⟩ := hS; go_simp) hHeld ?_
                            try simp only [Act.put, List.setIfInBounds_toArray, List.set_cons_zero, List.set_cons_succ]
                            refine held_yes 2 (some 153) (.bool false) rfl rfl (by kernel_rfl) (by kernel_rfl) (by kernel_rfl) (fun _ _ _ h => h) rfl (fun w' hS => by obtain ⟨s0, s1, s2, s3⟩ := hS; go_simp) hHeld ?_
                            try simp only [Act.put, List.setIfInBounds_toArray, List.set_cons_zero, List.set_cons_succ]
                            refine held_no 3 (some 154) rfl rfl (by kernel_rfl) (by kernel_rfl) (by kernel_rfl) (fun _ _ _ h => h) rfl hHeld ?_
                            try simp only [Act.put, List.setIfInBounds_toArray, List.set_cons_zero, List.set_cons_succ]
                            refine held_no 4 (some 155) rfl rfl (by kernel_rfl) (by kernel_rfl) (by kernel_rfl) (fun _ _ _ h => h) rfl hHeld ?_
                            try simp only [Act.put, List.setIfInBounds_toArray, List.set_cons_zero, List.set_cons_succ]
                            refine held_yes 5 (some 156) (.bool false) rfl rfl (by kernel_rfl) (by kernel_rfl) (by kernel_rfl) (fun _ _ _ h => h) rfl (fun w' hS => by obtain ⟨s0, s1, s2, s3⟩ := hS; go_simp) hHeld ?_
                            try simp only [Act.put, List.setIfInBounds_toArray, List.set_cons_zero, List.set_cons_succ]
                            refine held_yes 6 (some 157) (.bool false) rfl rfl (by kernel_rfl) (by kernel_rfl) (by kernel_rfl) (fun _ _ _ h => h) rfl (fun w' hS => by obtain ⟨s0, s1, s2, s3⟩ := hS; go_simp) hHeld ?_
                            try simp only [Act.put, List.setIfInBounds_toArray, List.set_cons_zero, List.set_cons_succ]
                            refine held_no 7 (some 158) rfl rfl (by kernel_rfl) (by kernel_rfl) (by kernel_rfl) (fun _ _ _ h => h) rfl hHeld ?_
                            try simp only [Act.put, List.setIfInBounds_toArray, List.set_cons_zero, List.set_cons_succ]
                            refine held_no 8 (some 159) rfl rfl (by kernel_rfl) (by kernel_rfl) (by kernel_rfl) (fun _ _ _ h => h) rfl hHeld ?_
                            try simp only [Act.put, List.setIfInBounds_toArray, List.set_cons_zero, List.set_cons_succ]
                            refine held_no 9 (some 160) rfl rfl (by kernel_rfl) (by kernel_rfl) (by kernel_rfl) (fun _ _ _ h => h) rfl hHeld ?_
                            try simp only [Act.put, List.setIfInBounds_toArray, List.set_cons_zero, List.set_cons_succ]
                            refine held_no 10 (some 161) rfl rfl (by kernel_rfl) (by kernel_rfl) (by kernel_rfl) (fun _ _ _ h => h) rfl hHeld ?_
                            try simp only [Act.put, List.setIfInBounds_toArray, List.set_cons_zero, List.set_cons_succ]
                            refine held_no 11 (some 162) rfl rfl (by kernel_rfl) (by kernel_rfl) (by kernel_rfl) (fun _ _ _ h => h) rfl hHeld ?_
                            try simp only [Act.put, List.setIfInBounds_toArray, List.set_cons_zero, List.set_cons_succ]
                            refine held_no 12 (some 163) rfl rfl (by kernel_rfl) (by kernel_rfl) (by kernel_rfl) (fun _ _ _ h => h) rfl hHeld ?_
                            try simp only [Act.put, List.setIfInBounds_toArray, List.set_cons_zero, List.set_cons_succ]
                            refine held_no 13 (some 164) rfl rfl (by kernel_rfl) (by kernel_rfl) (by kernel_rfl) (fun _ _ _ h => h) rfl hHeld ?_
                            try simp only [Act.put, List.setIfInBounds_toArray, List.set_cons_zero, List.set_cons_succ]
                            refine held_no 14 (some 165) rfl rfl (by kernel_rfl) (by kernel_rfl) (by kernel_rfl) (fun _ _ _ h => h) rfl hHeld ?_
                            try simp only [Act.put, List.setIfInBounds_toArray, List.set_cons_zero, List.set_cons_succ]
                            refine held_no 15 (some 166) rfl rfl (by kernel_rfl) (by kernel_rfl) (by kernel_rfl) (fun _ _ _ h => h) rfl hHeld ?_
                            try simp only [Act.put, List.setIfInBounds_toArray, List.set_cons_zero, List.set_cons_succ]
                            refine held_no 16 (some 167) rfl rfl (by kernel_rfl) (by kernel_rfl) (by kernel_rfl) (fun _ _ _ h => h) rfl hHeld ?_
                            try simp only [Act.put, List.setIfInBounds_toArray, List.set_cons_zero, List.set_cons_succ]
                            refine held_no 17 (some 168) rfl rfl (by kernel_rfl) (by kernel_rfl) (by kernel_rfl) (fun _ _ _ h => h) rfl hHeld ?_
                            try simp only [Act.put, List.setIfInBounds_toArray, List.set_cons_zero, List.set_cons_succ]
                            refine held_no 18 (some 169) rfl rfl (by kernel_rfl) (by kernel_rfl) (by kernel_rfl) (fun _ _ _ h => h) rfl hHeld ?_
                            try simp only [Act.put, List.setIfInBounds_toArray, List.set_cons_zero, List.set_cons_succ]
                            refine held_no 19 (some 170) rfl rfl (by kernel_rfl) (by kernel_rfl) (by kernel_rfl) (fun _ _ _ h => h) rfl hHeld ?_
                            try simp only [Act.put, List.setIfInBounds_toArray, List.set_cons_zero, List.set_cons_succ]
                            refine held_no 20 (some 171) rfl rfl (by kernel_rfl) (by kernel_rfl) (by kernel_rfl) (fun _ _ _ h => h) rfl hHeld ?_
                            try simp only [Act.put, List.setIfInBounds_toArray, List.set_cons_zero, List.set_cons_succ]
                            refine held_no 21 (some 172) rfl rfl (by kernel_rfl) (by kernel_rfl) (by kernel_rfl) (fun _ _ _ h => h) rfl hHeld ?_
                            try simp only [Act.put, List.setIfInBounds_toArray, List.set_cons_zero, List.set_cons_succ]
                            refine held_no 22 (some 173) rfl rfl (by kernel_rfl) (by kernel_rfl) (by kernel_rfl) (fun _ _ _ h => h) rfl hHeld ?_
                            try simp only [Act.put, List.setIfInBounds_toArray, List.set_cons_zero, List.set_cons_succ]
                            refine held_no 23 (some 174) rfl rfl (by kernel_rfl) (by kernel_rfl) (by kernel_rfl) (fun _ _ _ h => h) rfl hHeld ?_
                            try simp only [Act.put, List.setIfInBounds_toArray, List.set_cons_zero, List.set_cons_succ]
                            refine held_yes 24 (some 175) (.bool false) rfl rfl (by kernel_rfl) (by kernel_rfl) (by kernel_rfl) (fun _ _ _ h => h) rfl (fun w' hS => by obtain ⟨s0, s1, s2, s3⟩ := hS; go_simp) hHeld ?_
                            try simp only [Act.put, List.setIfInBounds_toArray, List.set_cons_zero, List.set_cons_succ]
                            refine held_yes 25 (some 176) (.bool false) rfl rfl (by kernel_rfl) (by kernel_rfl) (by kernel_rfl) (fun _ _ _ h => h) rfl (fun w' hS => by obtain ⟨s0, s1, s2, s3⟩ := hS; go_simp) hHeld ?_
                            try simp only [Act.put, List.setIfInBounds_toArray, List.set_cons_zero, List.set_cons_succ]
                            refine held_no 26 (some 177) rfl rfl (by kernel_rfl) (by kernel_rfl) (by kernel_rfl) (fun _ _ _ h => h) rfl hHeld ?_
                            try simp only [Act.put, List.setIfInBounds_toArray, List.set_cons_zero, List.set_cons_succ]
                            refine held_no 27 (some 178) rfl rfl (by kernel_rfl) (by kernel_rfl) (by kernel_rfl) (fun _ _ _ h => h) rfl hHeld ?_
                            try simp only [Act.put, List.setIfInBounds_toArray, List.set_cons_zero, List.set_cons_succ]
                            refine held_no 28 (some 179) rfl rfl (by kernel_rfl) (by kernel_rfl) (by kernel_rfl) (fun _ _ _ h => h) rfl hHeld ?_
                            try simp only [Act.put, List.setIfInBounds_toArray, List.set_cons_zero, List.set_cons_succ]
                            refine held_no 29 (some 180) rfl rfl (by kernel_rfl) (by kernel_rfl) (by kernel_rfl) (fun _ _ _ h => h) rfl hHeld ?_
                            try simp only [Act.put, List.setIfInBounds_toArray, List.set_cons_zero, List.set_cons_succ]
                            refine held_no 30 (some 181) rfl rfl (by kernel_rfl) (by kernel_rfl) (by kernel_rfl) (fun _ _ _ h => h) rfl hHeld ?_
                            try simp only [Act.put, List.setIfInBounds_toArray, List.set_cons_zero, List.set_cons_succ]
                            refine held_no 31 (some 182) rfl rfl (by kernel_rfl) (by kernel_rfl) (by kernel_rfl) (fun _ _ _ h => h) rfl hHeld ?_
                            try simp only [Act.put, List.setIfInBounds_toArray, List.set_cons_zero, List.set_cons_succ]
                            refine held_no 32 (some 183) rfl rfl (by kernel_rfl) (by kernel_rfl) (by kernel_rfl) (fun _ _ _ h => h) rfl hHeld ?_
                            try simp only [Act.put, List.setIfInBounds_toArray, List.set_cons_zero, List.set_cons_succ]
                            refine held_no 33 (some 184) rfl rfl (by kernel_rfl) (by kernel_rfl) (by kernel_rfl) (fun _ _ _ h => h) rfl hHeld ?_
                            try simp only [Act.put, List.setIfInBounds_toArray, List.set_cons_zero, List.set_cons_succ]
                            refine held_no 34 (some 185) rfl rfl (by kernel_rfl) (by kernel_rfl) (by kernel_rfl) (fun _ _ _ h => h) rfl hHeld ?_
                            try simp only [Act.put, List.setIfInBounds_toArray, List.set_cons_zero, List.set_cons_succ]
                            refine held_no 35 (some 186) rfl rfl (by kernel_rfl) (by kernel_rfl) (by kernel_rfl) (fun _ _ _ h => h) rfl hHeld ?_
                            try simp only [Act.put, List.setIfInBounds_toArray, List.set_cons_zero, List.set_cons_succ]
                            refine held_no 36 (some 187) rfl rfl (by kernel_rfl) (by kernel_rfl) (by kernel_rfl) (fun _ _ _ h => h) rfl hHeld ?_
                            try simp only [Act.put, List.setIfInBounds_toArray, List.set_cons_zero, List.set_cons_succ]
                            refine held_no 37 (some 188) rfl rfl (by kernel_rfl) (by kernel_rfl) (by kernel_rfl) (fun _ _ _ h => h) rfl hHeld ?_
                            try simp only [Act.put, List.setIfInBounds_toArray, List.set_cons_zero, List.set_cons_succ]
                            refine held_no 38 (some 189) rfl rfl (by kernel_rfl) (by kernel_rfl) (by kernel_rfl) (fun _ _ _ h => h) rfl hHeld ?_
                            try simp only [Act.put, List.setIfInBounds_toArray, List.set_cons_zero, List.set_cons_succ]
                            refine held_no 39 (some 190) rfl rfl (by kernel_rfl) (by kernel_rfl) (by kernel_rfl) (fun _ _ _ h => h) rfl hHeld ?_
                            try simp only [Act.put, List.setIfInBounds_toArray, List.set_cons_zero, List.set_cons_succ]
                            refine held_no 40 (some 191) rfl rfl (by kernel_rfl) (by kernel_rfl) (by kernel_rfl) (fun _ _ _ h => h) rfl hHeld ?_
                            try simp only [Act.put, List.setIfInBounds_toArray, List.set_cons_zero, List.set_cons_succ]
                            refine held_no 41 (some 192) rfl rfl (by kernel_rfl) (by kernel_rfl) (by kernel_rfl) (fun _ _ _ h => h) rfl hHeld ?_
                            try simp only [Act.put, List.setIfInBounds_toArray, List.set_cons_zero, List.set_cons_succ]
                            refine held_no 42 (some 193) rfl rfl (by kernel_rfl) (by kernel_rfl) (by kernel_rfl) (fun _ _ _ h => h) rfl hHeld ?_
                            try simp only [Act.put, List.setIfInBounds_toArray, List.set_cons_zero, List.set_cons_succ]
                            refine held_yes 43 (some 194) (.bool false) rfl rfl (by kernel_rfl) (by kernel_rfl) (by kernel_rfl) (fun _ _ _ h => h) rfl (fun w' hS => by obtain ⟨s0, s1, s2, s3⟩ := hS; go_simp) hHeld ?_
                            try simp only [Act.put, List.setIfInBounds_toArray, List.set_cons_zero, List.set_cons_succ]
                            refine wpAnyH_done (by kernel_rfl) ?_ _
                            clear hHeld
                            go_wp2_with fail
                            go_roundw
                            case rel => exact ⟨s + 1, HSK.out, by simp, HN2.out, HX2.out _⟩
                            case measure => exact HSMS.out
                          case pos =>
                          have HZ1 := Lib.hid hz1
                          clear hz1
                          by_cases hz2 : 0 < z'
                          case neg =>
                            have HZ2 := Lib.hid hz2
                            have HNO : RowKit.Hid (¬ (0 < z ∧ 0 < z' ∧ y < y' + z' ∧ y' < y + z)) := Lib.hid (by exact fun h => HZ2.out h.2.1)
                            have HN2 : RowKit.Hid (∀ (r : Nat), r < s + 1 → ¬ HitN js S k q r) := Lib.hid fun r h1 => by
                              rcases Nat.lt_or_eq_of_le (Nat.le_of_lt_succ h1) with h3 | rfl
                              · exact HH.out r h3
                              · exact fun h => HNO.out (HDEC.out.1 h)
                            clear hz2
                            obtain ⟨ws1, ws2⟩ := HWS.out
                            go_wp2_with fail
                            have d1 : decide ((0 : Int) < z) = true := decide_eq_true (by have := HZ1.out; omega)
                            have d2 : decide ((0 : Int) < z') = false := decide_eq_false (by have := HZ2.out; omega)
                            have hD := (below_drewN (Below.refl w8.heap.size w8) nq).drew
                            refine wp_region_held_drew (S := fun V => V.cell? ⟨bS, oS + k, none⟩ = some (.slice (some ⟨bx, ox, none⟩) x.length cx) ∧ V.cell? ⟨bS, oS + q, none⟩ = some (.slice (some ⟨bx', ox', none⟩) x'.length cx') ∧ V.cell? ⟨bx, ox + s, none⟩ = some (.int .i64 y) ∧ V.cell? ⟨bx', ox' + s, none⟩ = some (.int .i64 y')) (by kernel_rfl) (kk _ hD) (fun hHeld => ?_)
                            refine held_yes 0 (some 151) (.int .i64 z) rfl rfl (by kernel_rfl) (by kernel_rfl) (by kernel_rfl) (fun _ _ _ h => h) rfl (fun w' hS => by obtain ⟨s0, s1, s2, s3⟩ := hS; go_simp) hHeld ?_
                            try simp only [Act.put, List.setIfInBounds_toArray, List.set_cons_zero, List.set_cons_succ]
                            refine held_yes 1 (some 152) (.bool true) rfl rfl (by kernel_rfl) (by kernel_rfl) (by kernel_rfl) (fun _ _ _ h => h) rfl (fun w' hS => by obtain ⟨s0, s1, s2, s3⟩ := hS; go_simp) hHeld ?_
                            try simp only [Act.put, List.setIfInBounds_toArray, List.set_cons_zero, List.set_cons_succ]
                            refine held_yes 2 (some 153) (.bool true) rfl rfl (by kernel_rfl) (by kernel_rfl) (by kernel_rfl) (fun _ _ _ h => h) rfl (fun w' hS => by obtain ⟨s0, s1, s2, s3⟩ := hS; go_simp) hHeld ?_
                            try simp only [Act.put, List.setIfInBounds_toArray, List.set_cons_zero, List.set_cons_succ]
                            refine held_yes 3 (some 154) (.int .i64 z') rfl rfl (by kernel_rfl) (by kernel_rfl) (by kernel_rfl) (fun _ _ _ h => h) rfl (fun w' hS => by obtain ⟨s0, s1, s2, s3⟩ := hS; go_simp) hHeld ?_
                            try simp only [Act.put, List.setIfInBounds_toArray, List.set_cons_zero, List.set_cons_succ]
                            refine held_yes 4 (some 155) (.bool false) rfl rfl (by kernel_rfl) (by kernel_rfl) (by kernel_rfl) (fun _ _ _ h => h) rfl (fun w' hS => by obtain ⟨s0, s1, s2, s3⟩ := hS; go_simp) hHeld ?_
                            try simp only [Act.put, List.setIfInBounds_toArray, List.set_cons_zero, List.set_cons_succ]
                            refine held_yes 5 (some 156) (.bool false) rfl rfl (by kernel_rfl) (by kernel_rfl) (by kernel_rfl) (fun _ _ _ h => h) rfl (fun w' hS => by obtain ⟨s0, s1, s2, s3⟩ := hS; go_simp) hHeld ?_
                            try simp only [Act.put, List.setIfInBounds_toArray, List.set_cons_zero, List.set_cons_succ]
                            refine held_yes 6 (some 157) (.bool false) rfl rfl (by kernel_rfl) (by kernel_rfl) (by kernel_rfl) (fun _ _ _ h => h) rfl (fun w' hS => by obtain ⟨s0, s1, s2, s3⟩ := hS; go_simp) hHeld ?_
                            try simp only [Act.put, List.setIfInBounds_toArray, List.set_cons_zero, List.set_cons_succ]
                            refine held_no 7 (some 158) rfl rfl (by kernel_rfl) (by kernel_rfl) (by kernel_rfl) (fun _ _ _ h => h) rfl hHeld ?_
                            try simp only [Act.put, List.setIfInBounds_toArray, List.set_cons_zero, List.set_cons_succ]
                            refine held_no 8 (some 159) rfl rfl (by kernel_rfl) (by kernel_rfl) (by kernel_rfl) (fun _ _ _ h => h) rfl hHeld ?_
                            try simp only [Act.put, List.setIfInBounds_toArray, List.set_cons_zero, List.set_cons_succ]
                            refine held_no 9 (some 160) rfl rfl (by kernel_rfl) (by kernel_rfl) (by kernel_rfl) (fun _ _ _ h => h) rfl hHeld ?_
                            try simp only [Act.put, List.setIfInBounds_toArray, List.set_cons_zero, List.set_cons_succ]
                            refine held_no 10 (some 161) rfl rfl (by kernel_rfl) (by kernel_rfl) (by kernel_rfl) (fun _ _ _ h => h) rfl hHeld ?_
                            try simp only [Act.put, List.setIfInBounds_toArray, List.set_cons_zero, List.set_cons_succ]
                            refine held_no 11 (some 162) rfl rfl (by kernel_rfl) (by kernel_rfl) (by kernel_rfl) (fun _ _ _ h => h) rfl hHeld ?_
                            try simp only [Act.put, List.setIfInBounds_toArray, List.set_cons_zero, List.set_cons_succ]
                            refine held_no 12 (some 163) rfl rfl (by kernel_rfl) (by kernel_rfl) (by kernel_rfl) (fun _ _ _ h => h) rfl hHeld ?_
                            try simp only [Act.put, List.setIfInBounds_toArray, List.set_cons_zero, List.set_cons_succ]
                            refine held_no 13 (some 164) rfl rfl (by kernel_rfl) (by kernel_rfl) (by kernel_rfl) (fun _ _ _ h => h) rfl hHeld ?_
                            try simp only [Act.put, List.setIfInBounds_toArray, List.set_cons_zero, List.set_cons_succ]
                            refine held_no 14 (some 165) rfl rfl (by kernel_rfl) (by kernel_rfl) (by kernel_rfl) (fun _ _ _ h => h) rfl hHeld ?_
                            try simp only [Act.put, List.setIfInBounds_toArray, List.set_cons_zero, List.set_cons_succ]
                            refine held_no 15 (some 166) rfl rfl (by kernel_rfl) (by kernel_rfl) (by kernel_rfl) (fun _ _ _ h => h) rfl hHeld ?_
                            try simp only [Act.put, List.setIfInBounds_toArray, List.set_cons_zero, List.set_cons_succ]
                            refine held_no 16 (some 167) rfl rfl (by kernel_rfl) (by kernel_rfl) (by kernel_rfl) (fun _ _ _ h => h) rfl hHeld ?_
                            try simp only [Act.put, List.setIfInBounds_toArray, List.set_cons_zero, List.set_cons_succ]
                            refine held_no 17 (some 168) rfl rfl (by kernel_rfl) (by kernel_rfl) (by kernel_rfl) (fun _ _ _ h => h) rfl hHeld ?_
                            try simp only [Act.put, List.setIfInBounds_toArray, List.set_cons_zero, List.set_cons_succ]
                            refine held_no 18 (some 169) rfl rfl (by kernel_rfl) (by kernel_rfl) (by kernel_rfl) (fun _ _ _ h => h) rfl hHeld ?_
                            try simp only [Act.put, List.setIfInBounds_toArray, List.set_cons_zero, List.set_cons_succ]
                            refine held_no 19 (some 170) rfl rfl (by kernel_rfl) (by kernel_rfl) (by kernel_rfl) (fun _ _ _ h => h) rfl hHeld ?_
                            try simp only [Act.put, List.setIfInBounds_toArray, List.set_cons_zero, List.set_cons_succ]
                            refine held_no 20 (some 171) rfl rfl (by kernel_rfl) (by kernel_rfl) (by kernel_rfl) (fun _ _ _ h => h) rfl hHeld ?_
                            try simp only [Act.put, List.setIfInBounds_toArray, List.set_cons_zero, List.set_cons_succ]
                            refine held_no 21 (some 172) rfl rfl (by kernel_rfl) (by kernel_rfl) (by kernel_rfl) (fun _ _ _ h => h) rfl hHeld ?_
                            try simp only [Act.put, List.setIfInBounds_toArray, List.set_cons_zero, List.set_cons_succ]
                            refine held_no 22 (some 173) rfl rfl (by kernel_rfl) (by kernel_rfl) (by kernel_rfl) (fun _ _ _ h => h) rfl hHeld ?_
                            try simp only [Act.put, List.setIfInBounds_toArray, List.set_cons_zero, List.set_cons_succ]
                            refine held_no 23 (some 174) rfl rfl (by kernel_rfl) (by kernel_rfl) (by kernel_rfl) (fun _ _ _ h => h) rfl hHeld ?_
                            try simp only [Act.put, List.setIfInBounds_toArray, List.set_cons_zero, List.set_cons_succ]
                            refine held_yes 24 (some 175) (.bool false) rfl rfl (by kernel_rfl) (by kernel_rfl) (by kernel_rfl) (fun _ _ _ h => h) rfl (fun w' hS => by obtain ⟨s0, s1, s2, s3⟩ := hS; go_simp) hHeld ?_
                            try simp only [Act.put, List.setIfInBounds_toArray, List.set_cons_zero, List.set_cons_succ]
                            refine held_yes 25 (some 176) (.bool false) rfl rfl (by kernel_rfl) (by kernel_rfl) (by kernel_rfl) (fun _ _ _ h => h) rfl (fun w' hS => by obtain ⟨s0, s1, s2, s3⟩ := hS; go_simp) hHeld ?_
                            try simp only [Act.put, List.setIfInBounds_toArray, List.set_cons_zero, List.set_cons_succ]
                            refine held_no 26 (some 177) rfl rfl (by kernel_rfl) (by kernel_rfl) (by kernel_rfl) (fun _ _ _ h => h) rfl hHeld ?_
                            try simp only [Act.put, List.setIfInBounds_toArray, List.set_cons_zero, List.set_cons_succ]
                            refine held_no 27 (some 178) rfl rfl (by kernel_rfl) (by kernel_rfl) (by kernel_rfl) (fun _ _ _ h => h) rfl hHeld ?_
                            try simp only [Act.put, List.setIfInBounds_toArray, List.set_cons_zero, List.set_cons_succ]
                            refine held_no 28 (some 179) rfl rfl (by kernel_rfl) (by kernel_rfl) (by kernel_rfl) (fun _ _ _ h => h) rfl hHeld ?_
                            try simp only [Act.put, List.setIfInBounds_toArray, List.set_cons_zero, List.set_cons_succ]
                            refine held_no 29 (some 180) rfl rfl (by kernel_rfl) (by kernel_rfl) (by kernel_rfl) (fun _ _ _ h => h) rfl hHeld ?_
                            try simp only [Act.put, List.setIfInBounds_toArray, List.set_cons_zero, List.set_cons_succ]
                            refine held_no 30 (some 181) rfl rfl (by kernel_rfl) (by kernel_rfl) (by kernel_rfl) (fun _ _ _ h => h) rfl hHeld ?_
                            try simp only [Act.put, List.setIfInBounds_toArray, List.set_cons_zero, List.set_cons_succ]
                            refine held_no 31 (some 182) rfl rfl (by kernel_rfl) (by kernel_rfl) (by kernel_rfl) (fun _ _ _ h => h) rfl hHeld ?_
                            try simp only [Act.put, List.setIfInBounds_toArray, List.set_cons_zero, List.set_cons_succ]
                            refine held_no 32 (some 183) rfl rfl (by kernel_rfl) (by kernel_rfl) (by kernel_rfl) (fun _ _ _ h => h) rfl hHeld ?_
                            try simp only [Act.put, List.setIfInBounds_toArray, List.set_cons_zero, List.set_cons_succ]
                            refine held_no 33 (some 184) rfl rfl (by kernel_rfl) (by kernel_rfl) (by kernel_rfl) (fun _ _ _ h => h) rfl hHeld ?_
                            try simp only [Act.put, List.setIfInBounds_toArray, List.set_cons_zero, List.set_cons_succ]
                            refine held_no 34 (some 185) rfl rfl (by kernel_rfl) (by kernel_rfl) (by kernel_rfl) (fun _ _ _ h => h) rfl hHeld ?_
                            try simp only [Act.put, List.setIfInBounds_toArray, List.set_cons_zero, List.set_cons_succ]
                            refine held_no 35 (some 186) rfl rfl (by kernel_rfl) (by kernel_rfl) (by kernel_rfl) (fun _ _ _ h => h) rfl hHeld ?_
                            try simp only [Act.put, List.setIfInBounds_toArray, List.set_cons_zero, List.set_cons_succ]
                            refine held_no 36 (some 187) rfl rfl (by kernel_rfl) (by kernel_rfl) (by kernel_rfl) (fun _ _ _ h => h) rfl hHeld ?_
                            try simp only [Act.put, List.setIfInBounds_toArray, List.set_cons_zero, List.set_cons_succ]
                            refine held_no 37 (some 188) rfl rfl (by kernel_rfl) (by kernel_rfl) (by kernel_rfl) (fun _ _ _ h => h) rfl hHeld ?_
                            try simp only [Act.put, List.setIfInBounds_toArray, List.set_cons_zero, List.set_cons_succ]
                            refine held_no 38 (some 189) rfl rfl (by kernel_rfl) (by kernel_rfl) (by kernel_rfl) (fun _ _ _ h => h) rfl hHeld ?_
                            try simp only [Act.put, List.setIfInBounds_toArray, List.set_cons_zero, List.set_cons_succ]
                            refine held_no 39 (some 190) rfl rfl (by kernel_rfl) (by kernel_rfl) (by kernel_rfl) (fun _ _ _ h => h) rfl hHeld ?_
                            try simp only [Act.put, List.setIfInBounds_toArray, List.set_cons_zero, List.set_cons_succ]
                            refine held_no 40 (some 191) rfl rfl (by kernel_rfl) (by kernel_rfl) (by kernel_rfl) (fun _ _ _ h => h) rfl hHeld ?_
                            try simp only [Act.put, List.setIfInBounds_toArray, List.set_cons_zero, List.set_cons_succ]
                            refine held_no 41 (some 192) rfl rfl (by kernel_rfl) (by kernel_rfl) (by kernel_rfl) (fun _ _ _ h => h) rfl hHeld ?_
                            try simp only [Act.put, List.setIfInBounds_toArray, List.set_cons_zero, List.set_cons_succ]
                            refine held_no 42 (some 193) rfl rfl (by kernel_rfl) (by kernel_rfl) (by kernel_rfl) (fun _ _ _ h => h) rfl hHeld ?_
                            try simp only [Act.put, List.setIfInBounds_toArray, List.set_cons_zero, List.set_cons_succ]
                            refine held_yes 43 (some 194) (.bool false) rfl rfl (by kernel_rfl) (by kernel_rfl) (by kernel_rfl) (fun _ _ _ h => h) rfl (fun w' hS => by obtain ⟨s0, s1, s2, s3⟩ := hS; go_simp) hHeld ?_
                            try simp only [Act.put, List.setIfInBounds_toArray, List.set_cons_zero, List.set_cons_succ]
                            refine wpAnyH_done (by kernel_rfl) ?_ _
                            clear hHeld
                            go_wp2_with fail
                            go_roundw
                            case rel => exact ⟨s + 1, HSK.out, by simp, HN2.out, HX2.out _⟩
                            case measure => exact HSMS.out
                          case pos =>
                          have HZ2 := Lib.hid hz2
                          clear hz2
                          by_cases hz3 : y < y' + z'
                          case neg =>
                            have HZ3 := Lib.hid hz3
                            have HNO : RowKit.Hid (¬ (0 < z ∧ 0 < z' ∧ y < y' + z' ∧ y' < y + z)) := Lib.hid (by exact fun h => HZ3.out h.2.2.1)
                            have HN2 : RowKit.Hid (∀ (r : Nat), r < s + 1 → ¬ HitN js S k q r) := Lib.hid fun r h1 => by
                              rcases Nat.lt_or_eq_of_le (Nat.le_of_lt_succ h1) with h3 | rfl
                              · exact HH.out r h3
                              · exact fun h => HNO.out (HDEC.out.1 h)
                            clear hz3
                            obtain ⟨ws1, ws2⟩ := HWS.out
                            go_wp2_with fail
                            have d1 : decide ((0 : Int) < z) = true := decide_eq_true (by have := HZ1.out; omega)
                            have d2 : decide ((0 : Int) < z') = true := decide_eq_true (by have := HZ2.out; omega)
                            have d3 : decide (y < y' + z') = false := decide_eq_false (by have := HZ3.out; omega)
                            have hD := (below_drewN (Below.refl w8.heap.size w8) nq).drew
                            refine wp_region_held_drew (S := fun V => V.cell? ⟨bS, oS + k, none⟩ = some (.slice (some ⟨bx, ox, none⟩) x.length cx) ∧ V.cell? ⟨bS, oS + q, none⟩ = some (.slice (some ⟨bx', ox', none⟩) x'.length cx') ∧ V.cell? ⟨bx, ox + s, none⟩ = some (.int .i64 y) ∧ V.cell? ⟨bx', ox' + s, none⟩ = some (.int .i64 y')) (by kernel_rfl) (kk _ hD) (fun hHeld => ?_)
                            refine held_yes 0 (some 151) (.int .i64 z) rfl rfl (by kernel_rfl) (by kernel_rfl) (by kernel_rfl) (fun _ _ _ h => h) rfl (fun w' hS => by obtain ⟨s0, s1, s2, s3⟩ := hS; go_simp) hHeld ?_
                            try simp only [Act.put, List.setIfInBounds_toArray, List.set_cons_zero, List.set_cons_succ]
                            refine held_yes 1 (some 152) (.bool true) rfl rfl (by kernel_rfl) (by kernel_rfl) (by kernel_rfl) (fun _ _ _ h => h) rfl (fun w' hS => by obtain ⟨s0, s1, s2, s3⟩ := hS; go_simp) hHeld ?_
                            try simp only [Act.put, List.setIfInBounds_toArray, List.set_cons_zero, List.set_cons_succ]
                            refine held_yes 2 (some 153) (.bool true) rfl rfl (by kernel_rfl) (by kernel_rfl) (by kernel_rfl) (fun _ _ _ h => h) rfl (fun w' hS => by obtain ⟨s0, s1, s2, s3⟩ := hS; go_simp) hHeld ?_
                            try simp only [Act.put, List.setIfInBounds_toArray, List.set_cons_zero, List.set_cons_succ]
                            refine held_yes 3 (some 154) (.int .i64 z') rfl rfl (by kernel_rfl) (by kernel_rfl) (by kernel_rfl) (fun _ _ _ h => h) rfl (fun w' hS => by obtain ⟨s0, s1, s2, s3⟩ := hS; go_simp) hHeld ?_
                            try simp only [Act.put, List.setIfInBounds_toArray, List.set_cons_zero, List.set_cons_succ]
                            refine held_yes 4 (some 155) (.bool true) rfl rfl (by kernel_rfl) (by kernel_rfl) (by kernel_rfl) (fun _ _ _ h => h) rfl (fun w' hS => by obtain ⟨s0, s1, s2, s3⟩ := hS; go_simp) hHeld ?_
                            try simp only [Act.put, List.setIfInBounds_toArray, List.set_cons_zero, List.set_cons_succ]
                            refine held_yes 5 (some 156) (.bool true) rfl rfl (by kernel_rfl) (by kernel_rfl) (by kernel_rfl) (fun _ _ _ h => h) rfl (fun w' hS => by obtain ⟨s0, s1, s2, s3⟩ := hS; go_simp) hHeld ?_
                            try simp only [Act.put, List.setIfInBounds_toArray, List.set_cons_zero, List.set_cons_succ]
                            refine held_yes 6 (some 157) (.bool true) rfl rfl (by kernel_rfl) (by kernel_rfl) (by kernel_rfl) (fun _ _ _ h => h) rfl (fun w' hS => by obtain ⟨s0, s1, s2, s3⟩ := hS; go_simp) hHeld ?_
                            try simp only [Act.put, List.setIfInBounds_toArray, List.set_cons_zero, List.set_cons_succ]
                            refine held_yes 7 (some 158) (.slice (some ⟨bS, oS, none⟩) js.length cv) rfl rfl (by kernel_rfl) (by kernel_rfl) (by kernel_rfl) (fun _ _ _ h => h) rfl (fun w' hS => by obtain ⟨s0, s1, s2, s3⟩ := hS; go_simp) hHeld ?_
                            try simp only [Act.put, List.setIfInBounds_toArray, List.set_cons_zero, List.set_cons_succ]
                            refine held_yes 8 (some 159) (.int .i64 k) rfl rfl (by kernel_rfl) (by kernel_rfl) (by kernel_rfl) (fun _ _ _ h => h) rfl (fun w' hS => by obtain ⟨s0, s1, s2, s3⟩ := hS; go_simp) hHeld ?_
                            try simp only [Act.put, List.setIfInBounds_toArray, List.set_cons_zero, List.set_cons_succ]
                            refine held_yes 9 (some 160) (.pointer (some ⟨bS, oS + k, none⟩)) rfl rfl (by kernel_rfl) (by kernel_rfl) (by kernel_rfl) (fun _ _ _ h => h) rfl (fun w' hS => by obtain ⟨s0, s1, s2, s3⟩ := hS; go_simp) hHeld ?_
                            try simp only [Act.put, List.setIfInBounds_toArray, List.set_cons_zero, List.set_cons_succ]
                            refine held_yes 10 (some 161) (.slice (some ⟨bx, ox, none⟩) x.length cx) rfl rfl (by kernel_rfl) (by kernel_rfl) (by kernel_rfl) (fun _ _ _ h => h) rfl (fun w' hS => by obtain ⟨s0, s1, s2, s3⟩ := hS; go_simp) hHeld ?_
                            try simp only [Act.put, List.setIfInBounds_toArray, List.set_cons_zero, List.set_cons_succ]
                            refine held_yes 11 (some 162) (.int .i64 s) rfl rfl (by kernel_rfl) (by kernel_rfl) (by kernel_rfl) (fun _ _ _ h => h) rfl (fun w' hS => by obtain ⟨s0, s1, s2, s3⟩ := hS; go_simp) hHeld ?_
                            try simp only [Act.put, List.setIfInBounds_toArray, List.set_cons_zero, List.set_cons_succ]
                            refine held_yes 12 (some 163) (.pointer (some ⟨bx, ox + s, none⟩)) rfl rfl (by kernel_rfl) (by kernel_rfl) (by kernel_rfl) (fun _ _ _ h => h) rfl (fun w' hS => by obtain ⟨s0, s1, s2, s3⟩ := hS; go_simp) hHeld ?_
                            try simp only [Act.put, List.setIfInBounds_toArray, List.set_cons_zero, List.set_cons_succ]
                            refine held_yes 13 (some 164) (.int .i64 y) rfl rfl (by kernel_rfl) (by kernel_rfl) (by kernel_rfl) (fun _ _ _ h => h) rfl (fun w' hS => by obtain ⟨s0, s1, s2, s3⟩ := hS; go_simp) hHeld ?_
                            try simp only [Act.put, List.setIfInBounds_toArray, List.set_cons_zero, List.set_cons_succ]
                            refine held_yes 14 (some 165) (.slice (some ⟨bS, oS, none⟩) js.length cv) rfl rfl (by kernel_rfl) (by kernel_rfl) (by kernel_rfl) (fun _ _ _ h => h) rfl (fun w' hS => by obtain ⟨s0, s1, s2, s3⟩ := hS; go_simp) hHeld ?_
                            try simp only [Act.put, List.setIfInBounds_toArray, List.set_cons_zero, List.set_cons_succ]
                            refine held_yes 15 (some 166) (.int .i64 q) rfl rfl (by kernel_rfl) (by kernel_rfl) (by kernel_rfl) (fun _ _ _ h => h) rfl (fun w' hS => by obtain ⟨s0, s1, s2, s3⟩ := hS; go_simp) hHeld ?_
                            try simp only [Act.put, List.setIfInBounds_toArray, List.set_cons_zero, List.set_cons_succ]
                            refine held_yes 16 (some 167) (.pointer (some ⟨bS, oS + q, none⟩)) rfl rfl (by kernel_rfl) (by kernel_rfl) (by kernel_rfl) (fun _ _ _ h => h) rfl (fun w' hS => by obtain ⟨s0, s1, s2, s3⟩ := hS; go_simp) hHeld ?_
                            try simp only [Act.put, List.setIfInBounds_toArray, List.set_cons_zero, List.set_cons_succ]
                            refine held_yes 17 (some 168) (.slice (some ⟨bx', ox', none⟩) x'.length cx') rfl rfl (by kernel_rfl) (by kernel_rfl) (by kernel_rfl) (fun _ _ _ h => h) rfl (fun w' hS => by obtain ⟨s0, s1, s2, s3⟩ := hS; go_simp) hHeld ?_
                            try simp only [Act.put, List.setIfInBounds_toArray, List.set_cons_zero, List.set_cons_succ]
                            refine held_yes 18 (some 169) (.int .i64 s) rfl rfl (by kernel_rfl) (by kernel_rfl) (by kernel_rfl) (fun _ _ _ h => h) rfl (fun w' hS => by obtain ⟨s0, s1, s2, s3⟩ := hS; go_simp) hHeld ?_
                            try simp only [Act.put, List.setIfInBounds_toArray, List.set_cons_zero, List.set_cons_succ]
                            refine held_yes 19 (some 170) (.pointer (some ⟨bx', ox' + s, none⟩)) rfl rfl (by kernel_rfl) (by kernel_rfl) (by kernel_rfl) (fun _ _ _ h => h) rfl (fun w' hS => by obtain ⟨s0, s1, s2, s3⟩ := hS; go_simp) hHeld ?_
                            try simp only [Act.put, List.setIfInBounds_toArray, List.set_cons_zero, List.set_cons_succ]
                            refine held_yes 20 (some 171) (.int .i64 y') rfl rfl (by kernel_rfl) (by kernel_rfl) (by kernel_rfl) (fun _ _ _ h => h) rfl (fun w' hS => by obtain ⟨s0, s1, s2, s3⟩ := hS; go_simp) hHeld ?_
                            try simp only [Act.put, List.setIfInBounds_toArray, List.set_cons_zero, List.set_cons_succ]
                            refine held_yes 21 (some 172) (.int .i64 z') rfl rfl (by kernel_rfl) (by kernel_rfl) (by kernel_rfl) (fun _ _ _ h => h) rfl (fun w' hS => by obtain ⟨s0, s1, s2, s3⟩ := hS; go_simp) hHeld ?_
                            try simp only [Act.put, List.setIfInBounds_toArray, List.set_cons_zero, List.set_cons_succ]
                            refine held_yes 22 (some 173) (.int .i64 (y' + z')) rfl rfl (by kernel_rfl) (by kernel_rfl) (by kernel_rfl) (fun _ _ _ h => h) rfl (fun w' hS => by obtain ⟨s0, s1, s2, s3⟩ := hS; go_simp) hHeld ?_
                            try simp only [Act.put, List.setIfInBounds_toArray, List.set_cons_zero, List.set_cons_succ]
                            refine held_yes 23 (some 174) (.bool false) rfl rfl (by kernel_rfl) (by kernel_rfl) (by kernel_rfl) (fun _ _ _ h => h) rfl (fun w' hS => by obtain ⟨s0, s1, s2, s3⟩ := hS; go_simp) hHeld ?_
                            try simp only [Act.put, List.setIfInBounds_toArray, List.set_cons_zero, List.set_cons_succ]
                            refine held_yes 24 (some 175) (.bool false) rfl rfl (by kernel_rfl) (by kernel_rfl) (by kernel_rfl) (fun _ _ _ h => h) rfl (fun w' hS => by obtain ⟨s0, s1, s2, s3⟩ := hS; go_simp) hHeld ?_
                            try simp only [Act.put, List.setIfInBounds_toArray, List.set_cons_zero, List.set_cons_succ]
                            refine held_yes 25 (some 176) (.bool false) rfl rfl (by kernel_rfl) (by kernel_rfl) (by kernel_rfl) (fun _ _ _ h => h) rfl (fun w' hS => by obtain ⟨s0, s1, s2, s3⟩ := hS; go_simp) hHeld ?_
                            try simp only [Act.put, List.setIfInBounds_toArray, List.set_cons_zero, List.set_cons_succ]
                            refine held_no 26 (some 177) rfl rfl (by kernel_rfl) (by kernel_rfl) (by kernel_rfl) (fun _ _ _ h => h) rfl hHeld ?_
                            try simp only [Act.put, List.setIfInBounds_toArray, List.set_cons_zero, List.set_cons_succ]
                            refine held_no 27 (some 178) rfl rfl (by kernel_rfl) (by kernel_rfl) (by kernel_rfl) (fun _ _ _ h => h) rfl hHeld ?_
                            try simp only [Act.put, List.setIfInBounds_toArray, List.set_cons_zero, List.set_cons_succ]
                            refine held_no 28 (some 179) rfl rfl (by kernel_rfl) (by kernel_rfl) (by kernel_rfl) (fun _ _ _ h => h) rfl hHeld ?_
                            try simp only [Act.put, List.setIfInBounds_toArray, List.set_cons_zero, List.set_cons_succ]
                            refine held_no 29 (some 180) rfl rfl (by kernel_rfl) (by kernel_rfl) (by kernel_rfl) (fun _ _ _ h => h) rfl hHeld ?_
                            try simp only [Act.put, List.setIfInBounds_toArray, List.set_cons_zero, List.set_cons_succ]
                            refine held_no 30 (some 181) rfl rfl (by kernel_rfl) (by kernel_rfl) (by kernel_rfl) (fun _ _ _ h => h) rfl hHeld ?_
                            try simp only [Act.put, List.setIfInBounds_toArray, List.set_cons_zero, List.set_cons_succ]
                            refine held_no 31 (some 182) rfl rfl (by kernel_rfl) (by kernel_rfl) (by kernel_rfl) (fun _ _ _ h => h) rfl hHeld ?_
                            try simp only [Act.put, List.setIfInBounds_toArray, List.set_cons_zero, List.set_cons_succ]
                            refine held_no 32 (some 183) rfl rfl (by kernel_rfl) (by kernel_rfl) (by kernel_rfl) (fun _ _ _ h => h) rfl hHeld ?_
                            try simp only [Act.put, List.setIfInBounds_toArray, List.set_cons_zero, List.set_cons_succ]
                            refine held_no 33 (some 184) rfl rfl (by kernel_rfl) (by kernel_rfl) (by kernel_rfl) (fun _ _ _ h => h) rfl hHeld ?_
                            try simp only [Act.put, List.setIfInBounds_toArray, List.set_cons_zero, List.set_cons_succ]
                            refine held_no 34 (some 185) rfl rfl (by kernel_rfl) (by kernel_rfl) (by kernel_rfl) (fun _ _ _ h => h) rfl hHeld ?_
                            try simp only [Act.put, List.setIfInBounds_toArray, List.set_cons_zero, List.set_cons_succ]
                            refine held_no 35 (some 186) rfl rfl (by kernel_rfl) (by kernel_rfl) (by kernel_rfl) (fun _ _ _ h => h) rfl hHeld ?_
                            try simp only [Act.put, List.setIfInBounds_toArray, List.set_cons_zero, List.set_cons_succ]
                            refine held_no 36 (some 187) rfl rfl (by kernel_rfl) (by kernel_rfl) (by kernel_rfl) (fun _ _ _ h => h) rfl hHeld ?_
                            try simp only [Act.put, List.setIfInBounds_toArray, List.set_cons_zero, List.set_cons_succ]
                            refine held_no 37 (some 188) rfl rfl (by kernel_rfl) (by kernel_rfl) (by kernel_rfl) (fun _ _ _ h => h) rfl hHeld ?_
                            try simp only [Act.put, List.setIfInBounds_toArray, List.set_cons_zero, List.set_cons_succ]
                            refine held_no 38 (some 189) rfl rfl (by kernel_rfl) (by kernel_rfl) (by kernel_rfl) (fun _ _ _ h => h) rfl hHeld ?_
                            try simp only [Act.put, List.setIfInBounds_toArray, List.set_cons_zero, List.set_cons_succ]
                            refine held_no 39 (some 190) rfl rfl (by kernel_rfl) (by kernel_rfl) (by kernel_rfl) (fun _ _ _ h => h) rfl hHeld ?_
                            try simp only [Act.put, List.setIfInBounds_toArray, List.set_cons_zero, List.set_cons_succ]
                            refine held_no 40 (some 191) rfl rfl (by kernel_rfl) (by kernel_rfl) (by kernel_rfl) (fun _ _ _ h => h) rfl hHeld ?_
                            try simp only [Act.put, List.setIfInBounds_toArray, List.set_cons_zero, List.set_cons_succ]
                            refine held_no 41 (some 192) rfl rfl (by kernel_rfl) (by kernel_rfl) (by kernel_rfl) (fun _ _ _ h => h) rfl hHeld ?_
                            try simp only [Act.put, List.setIfInBounds_toArray, List.set_cons_zero, List.set_cons_succ]
                            refine held_no 42 (some 193) rfl rfl (by kernel_rfl) (by kernel_rfl) (by kernel_rfl) (fun _ _ _ h => h) rfl hHeld ?_
                            try simp only [Act.put, List.setIfInBounds_toArray, List.set_cons_zero, List.set_cons_succ]
                            refine held_yes 43 (some 194) (.bool false) rfl rfl (by kernel_rfl) (by kernel_rfl) (by kernel_rfl) (fun _ _ _ h => h) rfl (fun w' hS => by obtain ⟨s0, s1, s2, s3⟩ := hS; go_simp) hHeld ?_
                            try simp only [Act.put, List.setIfInBounds_toArray, List.set_cons_zero, List.set_cons_succ]
                            refine wpAnyH_done (by kernel_rfl) ?_ _
                            clear hHeld
                            go_wp2_with fail
                            go_roundw
                            case rel => exact ⟨s + 1, HSK.out, by simp, HN2.out, HX2.out _⟩
                            case measure => exact HSMS.out
                          case pos =>
                          have HZ3 := Lib.hid hz3
                          clear hz3
                          by_cases hz4 : y' < y + z
                          case neg =>
                            have HZ4 := Lib.hid hz4
                            have HNO : RowKit.Hid (¬ (0 < z ∧ 0 < z' ∧ y < y' + z' ∧ y' < y + z)) := Lib.hid (by exact fun h => HZ4.out h.2.2.2)
                            have HN2 : RowKit.Hid (∀ (r : Nat), r < s + 1 → ¬ HitN js S k q r) := Lib.hid fun r h1 => by
                              rcases Nat.lt_or_eq_of_le (Nat.le_of_lt_succ h1) with h3 | rfl
                              · exact HH.out r h3
                              · exact fun h => HNO.out (HDEC.out.1 h)
                            clear hz4
                            obtain ⟨ws1, ws2⟩ := HWS.out
                            go_wp2_with fail
                            have d1 : decide ((0 : Int) < z) = true := decide_eq_true (by have := HZ1.out; omega)
                            have d2 : decide ((0 : Int) < z') = true := decide_eq_true (by have := HZ2.out; omega)
                            have d3 : decide (y < y' + z') = true := decide_eq_true (by have := HZ3.out; omega)
                            have d4 : decide (y' < y + z) = false := decide_eq_false (by have := HZ4.out; omega)
                            have hD := (below_drewN (Below.refl w8.heap.size w8) nq).drew
                            refine wp_region_held_drew (S := fun V => V.cell? ⟨bS, oS + k, none⟩ = some (.slice (some ⟨bx, ox, none⟩) x.length cx) ∧ V.cell? ⟨bS, oS + q, none⟩ = some (.slice (some ⟨bx', ox', none⟩) x'.length cx') ∧ V.cell? ⟨bx, ox + s, none⟩ = some (.int .i64 y) ∧ V.cell? ⟨bx', ox' + s, none⟩ = some (.int .i64 y')) (by kernel_rfl) (kk _ hD) (fun hHeld => ?_)
                            refine held_yes 0 (some 151) (.int .i64 z) rfl rfl (by kernel_rfl) (by kernel_rfl) (by kernel_rfl) (fun _ _ _ h => h) rfl (fun w' hS => by obtain ⟨s0, s1, s2, s3⟩ := hS; go_simp) hHeld ?_
                            try simp only [Act.put, List.setIfInBounds_toArray, List.set_cons_zero, List.set_cons_succ]
                            refine held_yes 1 (some 152) (.bool true) rfl rfl (by kernel_rfl) (by kernel_rfl) (by kernel_rfl) (fun _ _ _ h => h) rfl (fun w' hS => by obtain ⟨s0, s1, s2, s3⟩ := hS; go_simp) hHeld ?_
                            try simp only [Act.put, List.setIfInBounds_toArray, List.set_cons_zero, List.set_cons_succ]
                            refine held_yes 2 (some 153) (.bool true) rfl rfl (by kernel_rfl) (by kernel_rfl) (by kernel_rfl) (fun _ _ _ h => h) rfl (fun w' hS => by obtain ⟨s0, s1, s2, s3⟩ := hS; go_simp) hHeld ?_
                            try simp only [Act.put, List.setIfInBounds_toArray, List.set_cons_zero, List.set_cons_succ]
                            refine held_yes 3 (some 154) (.int .i64 z') rfl rfl (by kernel_rfl) (by kernel_rfl) (by kernel_rfl) (fun _ _ _ h => h) rfl (fun w' hS => by obtain ⟨s0, s1, s2, s3⟩ := hS; go_simp) hHeld ?_
                            try simp only [Act.put, List.setIfInBounds_toArray, List.set_cons_zero, List.set_cons_succ]
                            refine held_yes 4 (some 155) (.bool true) rfl rfl (by kernel_rfl) (by kernel_rfl) (by kernel_rfl) (fun _ _ _ h => h) rfl (fun w' hS => by obtain ⟨s0, s1, s2, s3⟩ := hS; go_simp) hHeld ?_
                            try simp only [Act.put, List.setIfInBounds_toArray, List.set_cons_zero, List.set_cons_succ]
                            refine held_yes 5 (some 156) (.bool true) rfl rfl (by kernel_rfl) (by kernel_rfl) (by kernel_rfl) (fun _ _ _ h => h) rfl (fun w' hS => by obtain ⟨s0, s1, s2, s3⟩ := hS; go_simp) hHeld ?_
                            try simp only [Act.put, List.setIfInBounds_toArray, List.set_cons_zero, List.set_cons_succ]
                            refine held_yes 6 (some 157) (.bool true) rfl rfl (by kernel_rfl) (by kernel_rfl) (by kernel_rfl) (fun _ _ _ h => h) rfl (fun w' hS => by obtain ⟨s0, s1, s2, s3⟩ := hS; go_simp) hHeld ?_
                            try simp only [Act.put, List.setIfInBounds_toArray, List.set_cons_zero, List.set_cons_succ]
                            refine held_yes 7 (some 158) (.slice (some ⟨bS, oS, none⟩) js.length cv) rfl rfl (by kernel_rfl) (by kernel_rfl) (by kernel_rfl) (fun _ _ _ h => h) rfl (fun w' hS => by obtain ⟨s0, s1, s2, s3⟩ := hS; go_simp) hHeld ?_
                            try simp only [Act.put, List.setIfInBounds_toArray, List.set_cons_zero, List.set_cons_succ]
                            refine held_yes 8 (some 159) (.int .i64 k) rfl rfl (by kernel_rfl) (by kernel_rfl) (by kernel_rfl) (fun _ _ _ h => h) rfl (fun w' hS => by obtain ⟨s0, s1, s2, s3⟩ := hS; go_simp) hHeld ?_
                            try simp only [Act.put, List.setIfInBounds_toArray, List.set_cons_zero, List.set_cons_succ]
                            refine held_yes 9 (some 160) (.pointer (some ⟨bS, oS + k, none⟩)) rfl rfl (by kernel_rfl) (by kernel_rfl) (by kernel_rfl) (fun _ _ _ h => h) rfl (fun w' hS => by obtain ⟨s0, s1, s2, s3⟩ := hS; go_simp) hHeld ?_
                            try simp only [Act.put, List.setIfInBounds_toArray, List.set_cons_zero, List.set_cons_succ]
                            refine held_yes 10 (some 161) (.slice (some ⟨bx, ox, none⟩) x.length cx) rfl rfl (by kernel_rfl) (by kernel_rfl) (by kernel_rfl) (fun _ _ _ h => h) rfl (fun w' hS => by obtain ⟨s0, s1, s2, s3⟩ := hS; go_simp) hHeld ?_
                            try simp only [Act.put, List.setIfInBounds_toArray, List.set_cons_zero, List.set_cons_succ]
                            refine held_yes 11 (some 162) (.int .i64 s) rfl rfl (by kernel_rfl) (by kernel_rfl) (by kernel_rfl) (fun _ _ _ h => h) rfl (fun w' hS => by obtain ⟨s0, s1, s2, s3⟩ := hS; go_simp) hHeld ?_
                            try simp only [Act.put, List.setIfInBounds_toArray, List.set_cons_zero, List.set_cons_succ]
                            refine held_yes 12 (some 163) (.pointer (some ⟨bx, ox + s, none⟩)) rfl rfl (by kernel_rfl) (by kernel_rfl) (by kernel_rfl) (fun _ _ _ h => h) rfl (fun w' hS => by obtain ⟨s0, s1, s2, s3⟩ := hS; go_simp) hHeld ?_
                            try simp only [Act.put, List.setIfInBounds_toArray, List.set_cons_zero, List.set_cons_succ]
                            refine held_yes 13 (some 164) (.int .i64 y) rfl rfl (by kernel_rfl) (by kernel_rfl) (by kernel_rfl) (fun _ _ _ h => h) rfl (fun w' hS => by obtain ⟨s0, s1, s2, s3⟩ := hS; go_simp) hHeld ?_
                            try simp only [Act.put, List.setIfInBounds_toArray, List.set_cons_zero, List.set_cons_succ]
                            refine held_yes 14 (some 165) (.slice (some ⟨bS, oS, none⟩) js.length cv) rfl rfl (by kernel_rfl) (by kernel_rfl) (by kernel_rfl) (fun _ _ _ h => h) rfl (fun w' hS => by obtain ⟨s0, s1, s2, s3⟩ := hS; go_simp) hHeld ?_
                            try simp only [Act.put, List.setIfInBounds_toArray, List.set_cons_zero, List.set_cons_succ]
                            refine held_yes 15 (some 166) (.int .i64 q) rfl rfl (by kernel_rfl) (by kernel_rfl) (by kernel_rfl) (fun _ _ _ h => h) rfl (fun w' hS => by obtain ⟨s0, s1, s2, s3⟩ := hS; go_simp) hHeld ?_
                            try simp only [Act.put, List.setIfInBounds_toArray, List.set_cons_zero, List.set_cons_succ]
                            refine held_yes 16 (some 167) (.pointer (some ⟨bS, oS + q, none⟩)) rfl rfl (by kernel_rfl) (by kernel_rfl) (by kernel_rfl) (fun _ _ _ h => h) rfl (fun w' hS => by obtain ⟨s0, s1, s2, s3⟩ := hS; go_simp) hHeld ?_
                            try simp only [Act.put, List.setIfInBounds_toArray, List.set_cons_zero, List.set_cons_succ]
                            refine held_yes 17 (some 168) (.slice (some ⟨bx', ox', none⟩) x'.length cx') rfl rfl (by kernel_rfl) (by kernel_rfl) (by kernel_rfl) (fun _ _ _ h => h) rfl (fun w' hS => by obtain ⟨s0, s1, s2, s3⟩ := hS; go_simp) hHeld ?_
                            try simp only [Act.put, List.setIfInBounds_toArray, List.set_cons_zero, List.set_cons_succ]
                            refine held_yes 18 (some 169) (.int .i64 s) rfl rfl (by kernel_rfl) (by kernel_rfl) (by kernel_rfl) (fun _ _ _ h => h) rfl (fun w' hS => by obtain ⟨s0, s1, s2, s3⟩ := hS; go_simp) hHeld ?_
                            try simp only [Act.put, List.setIfInBounds_toArray, List.set_cons_zero, List.set_cons_succ]
                            refine held_yes 19 (some 170) (.pointer (some ⟨bx', ox' + s, none⟩)) rfl rfl (by kernel_rfl) (by kernel_rfl) (by kernel_rfl) (fun _ _ _ h => h) rfl (fun w' hS => by obtain ⟨s0, s1, s2, s3⟩ := hS; go_simp) hHeld ?_
                            try simp only [Act.put, List.setIfInBounds_toArray, List.set_cons_zero, List.set_cons_succ]
                            refine held_yes 20 (some 171) (.int .i64 y') rfl rfl (by kernel_rfl) (by kernel_rfl) (by kernel_rfl) (fun _ _ _ h => h) rfl (fun w' hS => by obtain ⟨s0, s1, s2, s3⟩ := hS; go_simp) hHeld ?_
                            try simp only [Act.put, List.setIfInBounds_toArray, List.set_cons_zero, List.set_cons_succ]
                            refine held_yes 21 (some 172) (.int .i64 z') rfl rfl (by kernel_rfl) (by kernel_rfl) (by kernel_rfl) (fun _ _ _ h => h) rfl (fun w' hS => by obtain ⟨s0, s1, s2, s3⟩ := hS; go_simp) hHeld ?_
                            try simp only [Act.put, List.setIfInBounds_toArray, List.set_cons_zero, List.set_cons_succ]
                            refine held_yes 22 (some 173) (.int .i64 (y' + z')) rfl rfl (by kernel_rfl) (by kernel_rfl) (by kernel_rfl) (fun _ _ _ h => h) rfl (fun w' hS => by obtain ⟨s0, s1, s2, s3⟩ := hS; go_simp) hHeld ?_
                            try simp only [Act.put, List.setIfInBounds_toArray, List.set_cons_zero, List.set_cons_succ]
                            refine held_yes 23 (some 174) (.bool true) rfl rfl (by kernel_rfl) (by kernel_rfl) (by kernel_rfl) (fun _ _ _ h => h) rfl (fun w' hS => by obtain ⟨s0, s1, s2, s3⟩ := hS; go_simp) hHeld ?_
                            try simp only [Act.put, List.setIfInBounds_toArray, List.set_cons_zero, List.set_cons_succ]
                            refine held_yes 24 (some 175) (.bool true) rfl rfl (by kernel_rfl) (by kernel_rfl) (by kernel_rfl) (fun _ _ _ h => h) rfl (fun w' hS => by obtain ⟨s0, s1, s2, s3⟩ := hS; go_simp) hHeld ?_
                            try simp only [Act.put, List.setIfInBounds_toArray, List.set_cons_zero, List.set_cons_succ]
                            refine held_yes 25 (some 176) (.bool true) rfl rfl (by kernel_rfl) (by kernel_rfl) (by kernel_rfl) (fun _ _ _ h => h) rfl (fun w' hS => by obtain ⟨s0, s1, s2, s3⟩ := hS; go_simp) hHeld ?_
                            try simp only [Act.put, List.setIfInBounds_toArray, List.set_cons_zero, List.set_cons_succ]
                            refine held_yes 26 (some 177) (.slice (some ⟨bS, oS, none⟩) js.length cv) rfl rfl (by kernel_rfl) (by kernel_rfl) (by kernel_rfl) (fun _ _ _ h => h) rfl (fun w' hS => by obtain ⟨s0, s1, s2, s3⟩ := hS; go_simp) hHeld ?_
                            try simp only [Act.put, List.setIfInBounds_toArray, List.set_cons_zero, List.set_cons_succ]
                            refine held_yes 27 (some 178) (.int .i64 q) rfl rfl (by kernel_rfl) (by kernel_rfl) (by kernel_rfl) (fun _ _ _ h => h) rfl (fun w' hS => by obtain ⟨s0, s1, s2, s3⟩ := hS; go_simp) hHeld ?_
                            try simp only [Act.put, List.setIfInBounds_toArray, List.set_cons_zero, List.set_cons_succ]
                            refine held_yes 28 (some 179) (.pointer (some ⟨bS, oS + q, none⟩)) rfl rfl (by kernel_rfl) (by kernel_rfl) (by kernel_rfl) (fun _ _ _ h => h) rfl (fun w' hS => by obtain ⟨s0, s1, s2, s3⟩ := hS; go_simp) hHeld ?_
                            try simp only [Act.put, List.setIfInBounds_toArray, List.set_cons_zero, List.set_cons_succ]
                            refine held_yes 29 (some 180) (.slice (some ⟨bx', ox', none⟩) x'.length cx') rfl rfl (by kernel_rfl) (by kernel_rfl) (by kernel_rfl) (fun _ _ _ h => h) rfl (fun w' hS => by obtain ⟨s0, s1, s2, s3⟩ := hS; go_simp) hHeld ?_
                            try simp only [Act.put, List.setIfInBounds_toArray, List.set_cons_zero, List.set_cons_succ]
                            refine held_yes 30 (some 181) (.int .i64 s) rfl rfl (by kernel_rfl) (by kernel_rfl) (by kernel_rfl) (fun _ _ _ h => h) rfl (fun w' hS => by obtain ⟨s0, s1, s2, s3⟩ := hS; go_simp) hHeld ?_
                            try simp only [Act.put, List.setIfInBounds_toArray, List.set_cons_zero, List.set_cons_succ]
                            refine held_yes 31 (some 182) (.pointer (some ⟨bx', ox' + s, none⟩)) rfl rfl (by kernel_rfl) (by kernel_rfl) (by kernel_rfl) (fun _ _ _ h => h) rfl (fun w' hS => by obtain ⟨s0, s1, s2, s3⟩ := hS; go_simp) hHeld ?_
                            try simp only [Act.put, List.setIfInBounds_toArray, List.set_cons_zero, List.set_cons_succ]
                            refine held_yes 32 (some 183) (.int .i64 y') rfl rfl (by kernel_rfl) (by kernel_rfl) (by kernel_rfl) (fun _ _ _ h => h) rfl (fun w' hS => by obtain ⟨s0, s1, s2, s3⟩ := hS; go_simp) hHeld ?_
                            try simp only [Act.put, List.setIfInBounds_toArray, List.set_cons_zero, List.set_cons_succ]
                            refine held_yes 33 (some 184) (.slice (some ⟨bS, oS, none⟩) js.length cv) rfl rfl (by kernel_rfl) (by kernel_rfl) (by kernel_rfl) (fun _ _ _ h => h) rfl (fun w' hS => by obtain ⟨s0, s1, s2, s3⟩ := hS; go_simp) hHeld ?_
                            try simp only [Act.put, List.setIfInBounds_toArray, List.set_cons_zero, List.set_cons_succ]
                            refine held_yes 34 (some 185) (.int .i64 k) rfl rfl (by kernel_rfl) (by kernel_rfl) (by kernel_rfl) (fun _ _ _ h => h) rfl (fun w' hS => by obtain ⟨s0, s1, s2, s3⟩ := hS; go_simp) hHeld ?_
                            try simp only [Act.put, List.setIfInBounds_toArray, List.set_cons_zero, List.set_cons_succ]
                            refine held_yes 35 (some 186) (.pointer (some ⟨bS, oS + k, none⟩)) rfl rfl (by kernel_rfl) (by kernel_rfl) (by kernel_rfl) (fun _ _ _ h => h) rfl (fun w' hS => by obtain ⟨s0, s1, s2, s3⟩ := hS; go_simp) hHeld ?_
                            try simp only [Act.put, List.setIfInBounds_toArray, List.set_cons_zero, List.set_cons_succ]
                            refine held_yes 36 (some 187) (.slice (some ⟨bx, ox, none⟩) x.length cx) rfl rfl (by kernel_rfl) (by kernel_rfl) (by kernel_rfl) (fun _ _ _ h => h) rfl (fun w' hS => by obtain ⟨s0, s1, s2, s3⟩ := hS; go_simp) hHeld ?_
                            try simp only [Act.put, List.setIfInBounds_toArray, List.set_cons_zero, List.set_cons_succ]
                            refine held_yes 37 (some 188) (.int .i64 s) rfl rfl (by kernel_rfl) (by kernel_rfl) (by kernel_rfl) (fun _ _ _ h => h) rfl (fun w' hS => by obtain ⟨s0, s1, s2, s3⟩ := hS; go_simp) hHeld ?_
                            try simp only [Act.put, List.setIfInBounds_toArray, List.set_cons_zero, List.set_cons_succ]
                            refine held_yes 38 (some 189) (.pointer (some ⟨bx, ox + s, none⟩)) rfl rfl (by kernel_rfl) (by kernel_rfl) (by kernel_rfl) (fun _ _ _ h => h) rfl (fun w' hS => by obtain ⟨s0, s1, s2, s3⟩ := hS; go_simp) hHeld ?_
                            try simp only [Act.put, List.setIfInBounds_toArray, List.set_cons_zero, List.set_cons_succ]
                            refine held_yes 39 (some 190) (.int .i64 y) rfl rfl (by kernel_rfl) (by kernel_rfl) (by kernel_rfl) (fun _ _ _ h => h) rfl (fun w' hS => by obtain ⟨s0, s1, s2, s3⟩ := hS; go_simp) hHeld ?_
                            try simp only [Act.put, List.setIfInBounds_toArray, List.set_cons_zero, List.set_cons_succ]
                            refine held_yes 40 (some 191) (.int .i64 z) rfl rfl (by kernel_rfl) (by kernel_rfl) (by kernel_rfl) (fun _ _ _ h => h) rfl (fun w' hS => by obtain ⟨s0, s1, s2, s3⟩ := hS; go_simp) hHeld ?_
                            try simp only [Act.put, List.setIfInBounds_toArray, List.set_cons_zero, List.set_cons_succ]
                            refine held_yes 41 (some 192) (.int .i64 (y + z)) rfl rfl (by kernel_rfl) (by kernel_rfl) (by kernel_rfl) (fun _ _ _ h => h) rfl (fun w' hS => by obtain ⟨s0, s1, s2, s3⟩ := hS; go_simp) hHeld ?_
                            try simp only [Act.put, List.setIfInBounds_toArray, List.set_cons_zero, List.set_cons_succ]
                            refine held_yes 42 (some 193) (.bool false) rfl rfl (by kernel_rfl) (by kernel_rfl) (by kernel_rfl) (fun _ _ _ h => h) rfl (fun w' hS => by obtain ⟨s0, s1, s2, s3⟩ := hS; go_simp) hHeld ?_
                            try simp only [Act.put, List.setIfInBounds_toArray, List.set_cons_zero, List.set_cons_succ]
                            refine held_yes 43 (some 194) (.bool false) rfl rfl (by kernel_rfl) (by kernel_rfl) (by kernel_rfl) (fun _ _ _ h => h) rfl (fun w' hS => by obtain ⟨s0, s1, s2, s3⟩ := hS; go_simp) hHeld ?_
                            try simp only [Act.put, List.setIfInBounds_toArray, List.set_cons_zero, List.set_cons_succ]
                            refine wpAnyH_done (by kernel_rfl) ?_ _
                            clear hHeld
                            go_wp2_with fail
                            go_roundw
                            case rel => exact ⟨s + 1, HSK.out, by simp, HN2.out, HX2.out _⟩
                            case measure => exact HSMS.out
                          case pos =>
                          have HZ4 := Lib.hid hz4
                          clear hz4
                          have HE := Lib.hid (HE16.out (HHIT.out (HDEC.out.2 ⟨HZ1.out, HZ2.out, HZ3.out, HZ4.out⟩)))
                          go_wp2_with fail
                          have d1 : decide ((0 : Int) < z) = true := decide_eq_true (by have := HZ1.out; omega)
                          have d2 : decide ((0 : Int) < z') = true := decide_eq_true (by have := HZ2.out; omega)
                          have d3 : decide (y < y' + z') = true := decide_eq_true (by have := HZ3.out; omega)
                          have d4 : decide (y' < y + z) = true := decide_eq_true (by have := HZ4.out; omega)
                          have hD := (below_drewN (Below.refl w8.heap.size w8) nq).drew
                          refine wp_region_held_drew (S := fun V => V.cell? ⟨bS, oS + k, none⟩ = some (.slice (some ⟨bx, ox, none⟩) x.length cx) ∧ V.cell? ⟨bS, oS + q, none⟩ = some (.slice (some ⟨bx', ox', none⟩) x'.length cx') ∧ V.cell? ⟨bx, ox + s, none⟩ = some (.int .i64 y) ∧ V.cell? ⟨bx', ox' + s, none⟩ = some (.int .i64 y')) (by kernel_rfl) (kk _ hD) (fun hHeld => ?_)
                          refine held_yes 0 (some 151) (.int .i64 z) rfl rfl (by kernel_rfl) (by kernel_rfl) (by kernel_rfl) (fun _ _ _ h => h) rfl (fun w' hS => by obtain ⟨s0, s1, s2, s3⟩ := hS; go_simp) hHeld ?_
                          try simp only [Act.put, List.setIfInBounds_toArray, List.set_cons_zero, List.set_cons_succ]
                          refine held_yes 1 (some 152) (.bool true) rfl rfl (by kernel_rfl) (by kernel_rfl) (by kernel_rfl) (fun _ _ _ h => h) rfl (fun w' hS => by obtain ⟨s0, s1, s2, s3⟩ := hS; go_simp) hHeld ?_
                          try simp only [Act.put, List.setIfInBounds_toArray, List.set_cons_zero, List.set_cons_succ]
                          refine held_yes 2 (some 153) (.bool true) rfl rfl (by kernel_rfl) (by kernel_rfl) (by kernel_rfl) (fun _ _ _ h => h) rfl (fun w' hS => by obtain ⟨s0, s1, s2, s3⟩ := hS; go_simp) hHeld ?_
                          try simp only [Act.put, List.setIfInBounds_toArray, List.set_cons_zero, List.set_cons_succ]
                          refine held_yes 3 (some 154) (.int .i64 z') rfl rfl (by kernel_rfl) (by kernel_rfl) (by kernel_rfl) (fun _ _ _ h => h) rfl (fun w' hS => by obtain ⟨s0, s1, s2, s3⟩ := hS; go_simp) hHeld ?_
                          try simp only [Act.put, List.setIfInBounds_toArray, List.set_cons_zero, List.set_cons_succ]
                          refine held_yes 4 (some 155) (.bool true) rfl rfl (by kernel_rfl) (by kernel_rfl) (by kernel_rfl) (fun _ _ _ h => h) rfl (fun w' hS => by obtain ⟨s0, s1, s2, s3⟩ := hS; go_simp) hHeld ?_
                          try simp only [Act.put, List.setIfInBounds_toArray, List.set_cons_zero, List.set_cons_succ]
                          refine held_yes 5 (some 156) (.bool true) rfl rfl (by kernel_rfl) (by kernel_rfl) (by kernel_rfl) (fun _ _ _ h => h) rfl (fun w' hS => by obtain ⟨s0, s1, s2, s3⟩ := hS; go_simp) hHeld ?_
                          try simp only [Act.put, List.setIfInBounds_toArray, List.set_cons_zero, List.set_cons_succ]
                          refine held_yes 6 (some 157) (.bool true) rfl rfl (by kernel_rfl) (by kernel_rfl) (by kernel_rfl) (fun _ _ _ h => h) rfl (fun w' hS => by obtain ⟨s0, s1, s2, s3⟩ := hS; go_simp) hHeld ?_
                          try simp only [Act.put, List.setIfInBounds_toArray, List.set_cons_zero, List.set_cons_succ]
                          refine held_yes 7 (some 158) (.slice (some ⟨bS, oS, none⟩) js.length cv) rfl rfl (by kernel_rfl) (by kernel_rfl) (by kernel_rfl) (fun _ _ _ h => h) rfl (fun w' hS => by obtain ⟨s0, s1, s2, s3⟩ := hS; go_simp) hHeld ?_
                          try simp only [Act.put, List.setIfInBounds_toArray, List.set_cons_zero, List.set_cons_succ]
                          refine held_yes 8 (some 159) (.int .i64 k) rfl rfl (by kernel_rfl) (by kernel_rfl) (by kernel_rfl) (fun _ _ _ h => h) rfl (fun w' hS => by obtain ⟨s0, s1, s2, s3⟩ := hS; go_simp) hHeld ?_
                          try simp only [Act.put, List.setIfInBounds_toArray, List.set_cons_zero, List.set_cons_succ]
                          refine held_yes 9 (some 160) (.pointer (some ⟨bS, oS + k, none⟩)) rfl rfl (by kernel_rfl) (by kernel_rfl) (by kernel_rfl) (fun _ _ _ h => h) rfl (fun w' hS => by obtain ⟨s0, s1, s2, s3⟩ := hS; go_simp) hHeld ?_
                          try simp only [Act.put, List.setIfInBounds_toArray, List.set_cons_zero, List.set_cons_succ]
                          refine held_yes 10 (some 161) (.slice (some ⟨bx, ox, none⟩) x.length cx) rfl rfl (by kernel_rfl) (by kernel_rfl) (by kernel_rfl) (fun _ _ _ h => h) rfl (fun w' hS => by obtain ⟨s0, s1, s2, s3⟩ := hS; go_simp) hHeld ?_
                          try simp only [Act.put, List.setIfInBounds_toArray, List.set_cons_zero, List.set_cons_succ]
                          refine held_yes 11 (some 162) (.int .i64 s) rfl rfl (by kernel_rfl) (by kernel_rfl) (by kernel_rfl) (fun _ _ _ h => h) rfl (fun w' hS => by obtain ⟨s0, s1, s2, s3⟩ := hS; go_simp) hHeld ?_
                          try simp only [Act.put, List.setIfInBounds_toArray, List.set_cons_zero, List.set_cons_succ]
                          refine held_yes 12 (some 163) (.pointer (some ⟨bx, ox + s, none⟩)) rfl rfl (by kernel_rfl) (by kernel_rfl) (by kernel_rfl) (fun _ _ _ h => h) rfl (fun w' hS => by obtain ⟨s0, s1, s2, s3⟩ := hS; go_simp) hHeld ?_
                          try simp only [Act.put, List.setIfInBounds_toArray, List.set_cons_zero, List.set_cons_succ]
                          refine held_yes 13 (some 164) (.int .i64 y) rfl rfl (by kernel_rfl) (by kernel_rfl) (by kernel_rfl) (fun _ _ _ h => h) rfl (fun w' hS => by obtain ⟨s0, s1, s2, s3⟩ := hS; go_simp) hHeld ?_
                          try simp only [Act.put, List.setIfInBounds_toArray, List.set_cons_zero, List.set_cons_succ]
                          refine held_yes 14 (some 165) (.slice (some ⟨bS, oS, none⟩) js.length cv) rfl rfl (by kernel_rfl) (by kernel_rfl) (by kernel_rfl) (fun _ _ _ h => h) rfl (fun w' hS => by obtain ⟨s0, s1, s2, s3⟩ := hS; go_simp) hHeld ?_
                          try simp only [Act.put, List.setIfInBounds_toArray, List.set_cons_zero, List.set_cons_succ]
                          refine held_yes 15 (some 166) (.int .i64 q) rfl rfl (by kernel_rfl) (by kernel_rfl) (by kernel_rfl) (fun _ _ _ h => h) rfl (fun w' hS => by obtain ⟨s0, s1, s2, s3⟩ := hS; go_simp) hHeld ?_
                          try simp only [Act.put, List.setIfInBounds_toArray, List.set_cons_zero, List.set_cons_succ]
                          refine held_yes 16 (some 167) (.pointer (some ⟨bS, oS + q, none⟩)) rfl rfl (by kernel_rfl) (by kernel_rfl) (by kernel_rfl) (fun _ _ _ h => h) rfl (fun w' hS => by obtain ⟨s0, s1, s2, s3⟩ := hS; go_simp) hHeld ?_
                          try simp only [Act.put, List.setIfInBounds_toArray, List.set_cons_zero, List.set_cons_succ]
                          refine held_yes 17 (some 168) (.slice (some ⟨bx', ox', none⟩) x'.length cx') rfl rfl (by kernel_rfl) (by kernel_rfl) (by kernel_rfl) (fun _ _ _ h => h) rfl (fun w' hS => by obtain ⟨s0, s1, s2, s3⟩ := hS; go_simp) hHeld ?_
                          try simp only [Act.put, List.setIfInBounds_toArray, List.set_cons_zero, List.set_cons_succ]
                          refine held_yes 18 (some 169) (.int .i64 s) rfl rfl (by kernel_rfl) (by kernel_rfl) (by kernel_rfl) (fun _ _ _ h => h) rfl (fun w' hS => by obtain ⟨s0, s1, s2, s3⟩ := hS; go_simp) hHeld ?_
                          try simp only [Act.put, List.setIfInBounds_toArray, List.set_cons_zero, List.set_cons_succ]
                          refine held_yes 19 (some 170) (.pointer (some ⟨bx', ox' + s, none⟩)) rfl rfl (by kernel_rfl) (by kernel_rfl) (by kernel_rfl) (fun _ _ _ h => h) rfl (fun w' hS => by obtain ⟨s0, s1, s2, s3⟩ := hS; go_simp) hHeld ?_
                          try simp only [Act.put, List.setIfInBounds_toArray, List.set_cons_zero, List.set_cons_succ]
                          refine held_yes 20 (some 171) (.int .i64 y') rfl rfl (by kernel_rfl) (by kernel_rfl) (by kernel_rfl) (fun _ _ _ h => h) rfl (fun w' hS => by obtain ⟨s0, s1, s2, s3⟩ := hS; go_simp) hHeld ?_
                          try simp only [Act.put, List.setIfInBounds_toArray, List.set_cons_zero, List.set_cons_succ]
                          refine held_yes 21 (some 172) (.int .i64 z') rfl rfl (by kernel_rfl) (by kernel_rfl) (by kernel_rfl) (fun _ _ _ h => h) rfl (fun w' hS => by obtain ⟨s0, s1, s2, s3⟩ := hS; go_simp) hHeld ?_
                          try simp only [Act.put, List.setIfInBounds_toArray, List.set_cons_zero, List.set_cons_succ]
                          refine held_yes 22 (some 173) (.int .i64 (y' + z')) rfl rfl (by kernel_rfl) (by kernel_rfl) (by kernel_rfl) (fun _ _ _ h => h) rfl (fun w' hS => by obtain ⟨s0, s1, s2, s3⟩ := hS; go_simp) hHeld ?_
                          try simp only [Act.put, List.setIfInBounds_toArray, List.set_cons_zero, List.set_cons_succ]
                          refine held_yes 23 (some 174) (.bool true) rfl rfl (by kernel_rfl) (by kernel_rfl) (by kernel_rfl) (fun _ _ _ h => h) rfl (fun w' hS => by obtain ⟨s0, s1, s2, s3⟩ := hS; go_simp) hHeld ?_
                          try simp only [Act.put, List.setIfInBounds_toArray, List.set_cons_zero, List.set_cons_succ]
                          refine held_yes 24 (some 175) (.bool true) rfl rfl (by kernel_rfl) (by kernel_rfl) (by kernel_rfl) (fun _ _ _ h => h) rfl (fun w' hS => by obtain ⟨s0, s1, s2, s3⟩ := hS; go_simp) hHeld ?_
                          try simp only [Act.put, List.setIfInBounds_toArray, List.set_cons_zero, List.set_cons_succ]
                          refine held_yes 25 (some 176) (.bool true) rfl rfl (by kernel_rfl) (by kernel_rfl) (by kernel_rfl) (fun _ _ _ h => h) rfl (fun w' hS => by obtain ⟨s0, s1, s2, s3⟩ := hS; go_simp) hHeld ?_
                          try simp only [Act.put, List.setIfInBounds_toArray, List.set_cons_zero, List.set_cons_succ]
                          refine held_yes 26 (some 177) (.slice (some ⟨bS, oS, none⟩) js.length cv) rfl rfl (by kernel_rfl) (by kernel_rfl) (by kernel_rfl) (fun _ _ _ h => h) rfl (fun w' hS => by obtain ⟨s0, s1, s2, s3⟩ := hS; go_simp) hHeld ?_
                          try simp only [Act.put, List.setIfInBounds_toArray, List.set_cons_zero, List.set_cons_succ]
                          refine held_yes 27 (some 178) (.int .i64 q) rfl rfl (by kernel_rfl) (by kernel_rfl) (by kernel_rfl) (fun _ _ _ h => h) rfl (fun w' hS => by obtain ⟨s0, s1, s2, s3⟩ := hS; go_simp) hHeld ?_
                          try simp only [Act.put, List.setIfInBounds_toArray, List.set_cons_zero, List.set_cons_succ]
                          refine held_yes 28 (some 179) (.pointer (some ⟨bS, oS + q, none⟩)) rfl rfl (by kernel_rfl) (by kernel_rfl) (by kernel_rfl) (fun _ _ _ h => h) rfl (fun w' hS => by obtain ⟨s0, s1, s2, s3⟩ := hS; go_simp) hHeld ?_
                          try simp only [Act.put, List.setIfInBounds_toArray, List.set_cons_zero, List.set_cons_succ]
                          refine held_yes 29 (some 180) (.slice (some ⟨bx', ox', none⟩) x'.length cx') rfl rfl (by kernel_rfl) (by kernel_rfl) (by kernel_rfl) (fun _ _ _ h => h) rfl (fun w' hS => by obtain ⟨s0, s1, s2, s3⟩ := hS; go_simp) hHeld ?_
                          try simp only [Act.put, List.setIfInBounds_toArray, List.set_cons_zero, List.set_cons_succ]
                          refine held_yes 30 (some 181) (.int .i64 s) rfl rfl (by kernel_rfl) (by kernel_rfl) (by kernel_rfl) (fun _ _ _ h => h) rfl (fun w' hS => by obtain ⟨s0, s1, s2, s3⟩ := hS; go_simp) hHeld ?_
                          try simp only [Act.put, List.setIfInBounds_toArray, List.set_cons_zero, List.set_cons_succ]
                          refine held_yes 31 (some 182) (.pointer (some ⟨bx', ox' + s, none⟩)) rfl rfl (by kernel_rfl) (by kernel_rfl) (by kernel_rfl) (fun _ _ _ h => h) rfl (fun w' hS => by obtain ⟨s0, s1, s2, s3⟩ := hS; go_simp) hHeld ?_
                          try simp only [Act.put, List.setIfInBounds_toArray, List.set_cons_zero, List.set_cons_succ]
                          refine held_yes 32 (some 183) (.int .i64 y') rfl rfl (by kernel_rfl) (by kernel_rfl) (by kernel_rfl) (fun _ _ _ h => h) rfl (fun w' hS => by obtain ⟨s0, s1, s2, s3⟩ := hS; go_simp) hHeld ?_
                          try simp only [Act.put, List.setIfInBounds_toArray, List.set_cons_zero, List.set_cons_succ]
                          refine held_yes 33 (some 184) (.slice (some ⟨bS, oS, none⟩) js.length cv) rfl rfl (by kernel_rfl) (by kernel_rfl) (by kernel_rfl) (fun _ _ _ h => h) rfl (fun w' hS => by obtain ⟨s0, s1, s2, s3⟩ := hS; go_simp) hHeld ?_
                          try simp only [Act.put, List.setIfInBounds_toArray, List.set_cons_zero, List.set_cons_succ]
                          refine held_yes 34 (some 185) (.int .i64 k) rfl rfl (by kernel_rfl) (by kernel_rfl) (by kernel_rfl) (fun _ _ _ h => h) rfl (fun w' hS => by obtain ⟨s0, s1, s2, s3⟩ := hS; go_simp) hHeld ?_
                          try simp only [Act.put, List.setIfInBounds_toArray, List.set_cons_zero, List.set_cons_succ]
                          refine held_yes 35 (some 186) (.pointer (some ⟨bS, oS + k, none⟩)) rfl rfl (by kernel_rfl) (by kernel_rfl) (by kernel_rfl) (fun _ _ _ h => h) rfl (fun w' hS => by obtain ⟨s0, s1, s2, s3⟩ := hS; go_simp) hHeld ?_
                          try simp only [Act.put, List.setIfInBounds_toArray, List.set_cons_zero, List.set_cons_succ]
                          refine held_yes 36 (some 187) (.slice (some ⟨bx, ox, none⟩) x.length cx) rfl rfl (by kernel_rfl) (by kernel_rfl) (by kernel_rfl) (fun _ _ _ h => h) rfl (fun w' hS => by obtain ⟨s0, s1, s2, s3⟩ := hS; go_simp) hHeld ?_
                          try simp only [Act.put, List.setIfInBounds_toArray, List.set_cons_zero, List.set_cons_succ]
                          refine held_yes 37 (some 188) (.int .i64 s) rfl rfl (by kernel_rfl) (by kernel_rfl) (by kernel_rfl) (fun _ _ _ h => h) rfl (fun w' hS => by obtain ⟨s0, s1, s2, s3⟩ := hS; go_simp) hHeld ?_
                          try simp only [Act.put, List.setIfInBounds_toArray, List.set_cons_zero, List.set_cons_succ]
                          refine held_yes 38 (some 189) (.pointer (some ⟨bx, ox + s, none⟩)) rfl rfl (by kernel_rfl) (by kernel_rfl) (by kernel_rfl) (fun _ _ _ h => h) rfl (fun w' hS => by obtain ⟨s0, s1, s2, s3⟩ := hS; go_simp) hHeld ?_
                          try simp only [Act.put, List.setIfInBounds_toArray, List.set_cons_zero, List.set_cons_succ]
                          refine held_yes 39 (some 190) (.int .i64 y) rfl rfl (by kernel_rfl) (by kernel_rfl) (by kernel_rfl) (fun _ _ _ h => h) rfl (fun w' hS => by obtain ⟨s0, s1, s2, s3⟩ := hS; go_simp) hHeld ?_
                          try simp only [Act.put, List.setIfInBounds_toArray, List.set_cons_zero, List.set_cons_succ]
                          refine held_yes 40 (some 191) (.int .i64 z) rfl rfl (by kernel_rfl) (by kernel_rfl) (by kernel_rfl) (fun _ _ _ h => h) rfl (fun w' hS => by obtain ⟨s0, s1, s2, s3⟩ := hS; go_simp) hHeld ?_
                          try simp only [Act.put, List.setIfInBounds_toArray, List.set_cons_zero, List.set_cons_succ]
                          refine held_yes 41 (some 192) (.int .i64 (y + z)) rfl rfl (by kernel_rfl) (by kernel_rfl) (by kernel_rfl) (fun _ _ _ h => h) rfl (fun w' hS => by obtain ⟨s0, s1, s2, s3⟩ := hS; go_simp) hHeld ?_
                          try simp only [Act.put, List.setIfInBounds_toArray, List.set_cons_zero, List.set_cons_succ]
                          refine held_yes 42 (some 193) (.bool true) rfl rfl (by kernel_rfl) (by kernel_rfl) (by kernel_rfl) (fun _ _ _ h => h) rfl (fun w' hS => by obtain ⟨s0, s1, s2, s3⟩ := hS; go_simp) hHeld ?_
                          try simp only [Act.put, List.setIfInBounds_toArray, List.set_cons_zero, List.set_cons_succ]
                          refine held_yes 43 (some 194) (.bool true) rfl rfl (by kernel_rfl) (by kernel_rfl) (by kernel_rfl) (fun _ _ _ h => h) rfl (fun w' hS => by obtain ⟨s0, s1, s2, s3⟩ := hS; go_simp) hHeld ?_
                          try simp only [Act.put, List.setIfInBounds_toArray, List.set_cons_zero, List.set_cons_succ]
                          refine wpAnyH_done (by kernel_rfl) ?_ _
                          clear hHeld
                          go_wp2_with fail
                          go_ret2
                          exact ⟨⟨_, _, rfl, HE.out⟩, HX2.out _⟩
                        · have htc : decide ((tl.length : Int) < (tl.length : Int)) = false := decide_eq_false (by omega)
                          have HN2 : RowKit.Hid (∀ (p s : Nat), p < q + 1 → s < stN js → ¬ HitN js S k p s) := Lib.hid fun p s h1 h2 => by
                            rcases Nat.lt_or_eq_of_le (Nat.le_of_lt_succ h1) with h3 | rfl
                            · exact HR.out p s h3 h2
                            · exact HH.out s h2
                          obtain ⟨wq1, wq2⟩ := HWQ.out
                          rw [htl] at r1
                          have hss : decide (((stN js : Nat) : Int) < ((stN js : Nat) : Int)) = false := decide_eq_false (by omega)
                          clear hc hc' j0 j1 j2 j0' j1' j2' ht ht' hd hd' hjo hjo' htl htl' htc r1'
                          go_wp2_with fail
                          go_roundw
                          case rel => exact ⟨q + 1, HQK.out, by simp, HN2.out, hX⟩
                          case measure => exact HQM.out
                    · have HN2 : RowKit.Hid (∀ (p q' s : Nat), p < q + 1 → q' < p → s < stN js → ¬ HitN js S p q' s) := Lib.hid fun p q' s h1 h2 h3 => by
                        rcases Nat.lt_or_eq_of_le (Nat.le_of_lt_succ h1) with h4 | rfl
                        · exact HP.out p q' s h4 h2 h3
                        · exact HR.out q' s h2 h3
                      obtain ⟨wk1, wk2⟩ := HWK.out
                      go_wp2_with fail
                      go_roundw
                      case rel => exact ⟨q + 1, HK.out, by simp, HN2.out, hX⟩
                      case measure => exact HM.out
                · have hNH : ¬ HitAny js S (stN js) := by
                    rintro ⟨s, hs, i, q, a, c, hqi, ha, hc, hh⟩
                    refine HP.out i q s ?_ hqi hs ⟨a, c, ha, hc, hh⟩
                    have h1 := (List.getElem?_eq_some_iff.1 ha).1
                    rw [useK_len HSN.out] at h1
                    exact h1
                  have HFIN := HT.out.resolve_right hNH
                  have kE := fun W (h : Below w.heap.size w W) => refEnd_ok js S (stN js) _ _ W (HL.out.below h) (HSS.out.below h) HOK.out HSN.out HXS.out
                  have HF := Lib.hid HFIN
                  clear hNH HFIN HT HE16
                  go_wp2_with (go_at_call 85; refine (kE _ hX).mono ?_; rintro e v5 ⟨rfl, hB5⟩)
                  go_ret2
                  exact ⟨⟨_, _, rfl, HF.out⟩, hX.trans (hB5.mono hX.size)⟩
end Go.Proofs
