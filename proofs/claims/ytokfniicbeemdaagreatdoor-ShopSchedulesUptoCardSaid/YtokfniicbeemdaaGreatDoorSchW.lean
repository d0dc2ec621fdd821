/- ShopSchedules: the walk. -/
import Derived.Test.YtokfniicbeemdaaGreatDoorLawJ
import Derived.Test.YtokfniicbeemdaaGreatDoorAwkShop
namespace Go.Proofs
open Go.AM Go.RowKit Go.MapKept
set_option maxHeartbeats 16000000
set_option maxRecDepth 1000000
theorem sched_in (v vs vr : Value) (L : List JobV) (js : List JobT) (S : List (List Int)) (r : List Int) (w : World) (hgk : GOk gN gRows w) (hl : SlF encJ w v L) (hi : InJ w L js) (hS : SlLL w vs S) (hr : SlI w vr r) (hn : L.length ≤ 1048576) :
    Calls Tryz.prog 5 #[v, vs, vr] w fun e w' => e = .returned (.bool true) ∧ Below w.heap.size w w' := by
  obtain ⟨n, hx⟩ := jobX_ex js
  have kOwn := lawOwn_ok v L w hl hn
  have hlj := InJ.slj hl hi
  obtain ⟨Al, cl, rfl⟩ := hl.form
  obtain ⟨As, cs, rfl⟩ := hS.form
  obtain ⟨Ar, cr, rfl⟩ := hr.form
  go_enter Tryz.func5, Tryz.ntmps5
  go_wp2_with fail
  refine kOwn.mono ?_
  rintro e w1 ⟨⟨u, rfl, hu⟩, hB1⟩
  clear kOwn
  have hus := hu.sl encJ_len
  obtain ⟨Au, cu, rfl⟩ := hus.form
  have huj := InJ.slj hus (hi.below hB1)
  have hBw : ∀ V, Below w1.heap.size w1 V → Below w.heap.size w V := fun V h => hB1.trans (h.mono hB1.size)
  have ksl : ∀ V, Below w1.heap.size w1 V → SlJ V (.slice Al L.length cl) js := fun V h => hlj.below (hBw V h)
  have ksu : ∀ V, Below w1.heap.size w1 V → SlJ V (.slice Au L.length cu) js := fun V h => huj.below h
  have kss : ∀ V, Below w1.heap.size w1 V → SlLL V (.slice As S.length cs) S := fun V h => hS.below (hBw V h)
  have ksr : ∀ V, Below w1.heap.size w1 V → SlI V (.slice Ar r.length cr) r := fun V h => hr.below (hBw V h)
  have kSh := refShortJ_ok _ L 12 w1 hus
  have hX := Below.refl w1.heap.size w1
  have HIJ := Lib.hid hi
  have HSS := Lib.hid kss
  clear hu hus hl hi hS hr hlj huj
  obtain ⟨b1, hb1⟩ : ∃ b, decide ((40 : Int) < (S.length : Int)) = b := ⟨_, rfl⟩
  obtain ⟨b2, hb2⟩ : ∃ b, decide ((12 : Int) < (r.length : Int)) = b := ⟨_, rfl⟩
  go_wp2_with fail
  refine kSh.mono ?_
  rintro e V1 ⟨⟨rs, rfl, hSh⟩, hB⟩
  replace hX := hX.trans (hB.mono hX.size)
  clear hB kSh
  cases rs with
  | false =>
    have hBo := hBw _ hX
    clear hSh
    go_wp2_with (go_at_call 10; refine (awake9_ok _ (hgk.below hBo)).mono ?_; rintro e w9 ⟨rfl, hQ9⟩)
    go_ret
    exact ⟨rfl, hBo.trans (hQ9.mono hBo.size)⟩
  | true =>
  have HSH := Lib.hid (hSh rfl)
  clear hSh
  cases b1 with
  | true =>
    have hBo := hBw _ hX
    go_wp2_with (go_at_call 10; refine (awake9_ok _ (hgk.below hBo)).mono ?_; rintro e w9 ⟨rfl, hQ9⟩)
    go_ret
    exact ⟨rfl, hBo.trans (hQ9.mono hBo.size)⟩
  | false =>
  cases b2 with
  | true =>
    have hBo := hBw _ hX
    go_wp2_with (go_at_call 10; refine (awake9_ok _ (hgk.below hBo)).mono ?_; rintro e w9 ⟨rfl, hQ9⟩)
    go_ret
    exact ⟨rfl, hBo.trans (hQ9.mono hBo.size)⟩
  | false =>
  have hSn : S.length ≤ 40 := by simp at hb1; omega
  have hrn : r.length ≤ 12 := by simp at hb2; omega
  have HSN := Lib.hid hSn
  have HRN := Lib.hid hrn
  have HX := Lib.hid hx
  have hs : ∀ j ∈ js, j.2.1.length ≤ 1000 ∧ j.2.2.length ≤ 1000 := fun j hj => by
    obtain ⟨k, hk⟩ := List.mem_iff_getElem?.1 hj
    obtain ⟨nm, A, n1, c, A', n2, c', t, d, h1, h2, h3, h4, h5, h6⟩ := HIJ.out.some_ (List.getElem?_eq_some_iff.1 hk).1
    obtain rfl := Option.some.inj (hk.symm.trans h2)
    have := HSH.out.2.2 k _ h1
    dsimp only at this ⊢
    omega
  have HJS := Lib.hid hs
  clear hs hx hSn hrn
  go_wp2_with fail
  go_loopw [37] (fun iv wr => ∃ k : Nat, k ≤ S.length ∧ iv = .int .i64 k ∧ (∀ (q : Nat) (x : List Int), q < k → S[q]? = some x → x.length ≤ 12) ∧ Below w1.heap.size w1 wr) (fun iv _ => S.length - (intOf iv).toNat)
  case atStart => exact ⟨0, Nat.zero_le _, rfl, fun q x h => absurd h (Nat.not_lt_zero q), hX⟩
  case round =>
    clear hX
    obtain ⟨k, hk, rfl, hp, hX⟩ := hrel
    rename World => w3
    have HP := Lib.hid hp
    clear hp
    rcases Nat.lt_or_eq_of_le hk with hkn | rfl
    · obtain ⟨bS, oS, x, Ax, cx, rfl, hbS, hxk, rS, hxs⟩ := (HSS.out _ hX).cells (k := k) hkn
      have hi0 : (0 : Int) ≤ k := by omega
      have hi1 : (k : Int) < S.length := by omega
      have HK := Lib.hid (show k + 1 ≤ S.length from hkn)
      have HM := Lib.hid (show S.length - (k + 1) < S.length - k by omega)
      obtain ⟨wk1, wk2⟩ := wrapsV (show k < 1048576 by have := HSN.out; omega)
      have HXK := Lib.hid hxk
      obtain ⟨b3, hb3⟩ : ∃ b, decide ((12 : Int) < (x.length : Int)) = b := ⟨_, rfl⟩
      clear hxk hxs
      cases b3 with
      | true =>
        have hBo := hBw _ hX
        go_wp2_with (go_at_call 10; refine (awake9_ok _ (hgk.below hBo)).mono ?_; rintro e w9 ⟨rfl, hQ9⟩)
        go_ret
        exact ⟨rfl, hBo.trans (hQ9.mono hBo.size)⟩
      | false =>
        have HN2 : RowKit.Hid (∀ (q : Nat) (x : List Int), q < k + 1 → S[q]? = some x → x.length ≤ 12) := Lib.hid fun q z h1 h2 => by
          rcases Nat.lt_or_eq_of_le (Nat.le_of_lt_succ h1) with h3 | rfl
          · exact HP.out q z h3 h2
          · obtain rfl := Option.some.inj (HXK.out.symm.trans h2)
            simp at hb3
            omega
        go_wp2_with fail
        go_roundw
        case rel => exact ⟨k + 1, HK.out, by simp, HN2.out, hX⟩
        case measure => exact HM.out
    · have hsx : ∀ x ∈ S, x.length ≤ 1000 := fun x hx => by
        obtain ⟨q, hq⟩ := List.mem_iff_getElem?.1 hx
        have := HP.out q x (List.getElem?_eq_some_iff.1 hq).1 hq
        omega
      have HSX := Lib.hid hsx
      clear hsx HP
      by_cases hz : n = 0
      case neg =>
        have kA := fun V vs (h : Below w1.heap.size w1 V) => shStartsA_ok js _ vs n V (ksl V h) HJS.out HX.out hz
        have kB := fun V vs (h : Below w1.heap.size w1 V) => shCostA_ok js _ vs n V (ksl V h) HJS.out HX.out hz
        have kC := fun V (h : Below w1.heap.size w1 V) => refJobN_ok js _ n V (ksu V h) HJS.out HX.out
        have kI := fun V => lawIntJ_ok 0 n 0 (fun _ => rfl) (fun _ => rfl) V
        have hzb : (n == 0) = false := by simpa using hz
        clear hz
        go_wp2_with fail
        refine (kA _ _ hX).mono ?_
        rintro e V4 ⟨rfl, hB⟩
        replace hX := hX.trans (hB.mono hX.size)
        clear hB kA
        go_wp2_with fail
        refine (kB _ _ hX).mono ?_
        rintro e V5 ⟨rfl, hB⟩
        replace hX := hX.trans (hB.mono hX.size)
        clear hB kB
        go_wp2_with fail
        refine (kC _ hX).mono ?_
        rintro e V6 ⟨rfl, hB⟩
        replace hX := hX.trans (hB.mono hX.size)
        clear hB kC
        have hBo := hBw _ hX
        go_wp2_with (first
          | (go_at_call 21; refine (kI _).mono ?_; rintro e v5 ⟨rfl, hv5⟩; obtain rfl : V6 = v5 := hv5.symm)
          | (go_at_call 10; refine (awake9_ok _ (hgk.below hBo)).mono ?_; rintro e w9 ⟨rfl, hQ9⟩))
        go_ret
        exact ⟨rfl, hBo.trans (hQ9.mono hBo.size)⟩
      case pos =>
      subst hz
      have hpos := HX.out.ok.pos
      have kA := fun V (h : Below w1.heap.size w1 V) => shStarts_ok js S _ _ V (ksl V h) (HSS.out V h) HJS.out HX.out (by have := HSN.out; omega) HSX.out
      have kC := fun V (h : Below w1.heap.size w1 V) => refJobN_ok js _ 0 V (ksu V h) HJS.out HX.out
      have kD := fun V (h : Below w1.heap.size w1 V) => refStarts_ok js S _ _ V (ksu V h) (HSS.out V h) HX.out (by have := HSN.out; omega) HSX.out
      have kR := fun V (h : Below w1.heap.size w1 V) => refRatesX_ok _ _ js r V (ksu V h) hpos (ksr V h) (by have := HRN.out; omega)
      clear hpos
      go_wp2_with fail
      refine (kA _ hX).mono ?_
      rintro e V4 ⟨⟨c1, e1, rfl, h1⟩, hB⟩
      replace hX := hX.trans (hB.mono hX.size)
      have H1 := Lib.hid h1
      clear hB kA h1
      go_wp2_with fail
      obtain ⟨er, her⟩ : ∃ er, er = ratesE r (stN js) := ⟨_, rfl⟩
      by_cases hz : er = 0
      case neg =>
        have kB := fun V (h : Below w1.heap.size w1 V) => shCostB_ok js r _ _ V (ksl V h) HJS.out HX.out (ksr V h) (by have := HRN.out; omega) (by rw [← her]; exact hz)
        rw [← her] at kB kR
        have kI2 := fun V => lawIntJ_ok 0 er 0 (fun _ => rfl) (fun _ => rfl) V
        have hzb : (er == 0) = false := by simpa using hz
        clear hz her
        refine (kB _ hX).mono ?_
        rintro e V5 ⟨rfl, hB⟩
        replace hX := hX.trans (hB.mono hX.size)
        clear hB kB
        go_wp2_with fail
        refine (kC _ hX).mono ?_
        rintro e V6 ⟨rfl, hB⟩
        replace hX := hX.trans (hB.mono hX.size)
        clear hB kC
        go_wp2_with fail
        refine (kD _ hX).mono ?_
        rintro e V7 ⟨⟨c2, e2, rfl, h2⟩, hB⟩
        replace hX := hX.trans (hB.mono hX.size)
        obtain ⟨rfl, rfl⟩ := H1.out.same h2
        have kI := fun V => lawIntJ_ok c1 e1 c1 (fun _ => rfl) (fun h => H1.out.zero h) V
        clear hB kD h2
        go_wp2_with fail
        refine (kR _ hX).mono ?_
        rintro e V8 ⟨rfl, hB⟩
        replace hX := hX.trans (hB.mono hX.size)
        clear hB kR
        have hBo := hBw _ hX
        go_wp2_with (first
          | (go_at_call 21; (first | with_reducible refine (kI _).mono ?_ | with_reducible refine (kI2 _).mono ?_); rintro e v5 ⟨rfl, hv5⟩; obtain rfl : V8 = v5 := hv5.symm)
          | (go_at_call 10; refine (awake9_ok _ (hgk.below hBo)).mono ?_; rintro e w9 ⟨rfl, hQ9⟩))
        go_ret
        exact ⟨rfl, hBo.trans (hQ9.mono hBo.size)⟩
      case pos =>
        subst hz
        have kB := fun V (h : Below w1.heap.size w1 V) => shCostC_ok js r _ _ V (ksl V h) HJS.out HX.out (ksr V h) (by have := HRN.out; omega) her.symm
        have kE := fun V (h : Below w1.heap.size w1 V) => refCost_ok js r _ _ V (ksu V h) (ksr V h) (costG_mk HX.out her.symm)
        rw [← her] at kR
        generalize costK js r js.length = ct at kB kE
        clear her
        refine (kB _ hX).mono ?_
        rintro e V5 ⟨hcase, hB⟩
        replace hX := hX.trans (hB.mono hX.size)
        have HXX := Lib.hid hX
        clear hB kB hX
        rcases hcase with ⟨hlt, rfl⟩ | ⟨hlt, rfl⟩
        · have hX := HXX.out
          have kI2 := fun V => lawIntJ_ok 0 4 ct (fun h => by cases h) (fun _ => rfl) V
          have hlb : decide ((999999999 : Int) < ct) = true := decide_eq_true hlt
          have kW := fun V => lawWhenJ_ok true 4 V
          clear hlt HXX
          go_wp2_with fail
          refine (kC _ hX).mono ?_
          rintro e V6 ⟨rfl, hB⟩
          replace hX := hX.trans (hB.mono hX.size)
          clear hB kC
          go_wp2_with fail
          refine (kD _ hX).mono ?_
          rintro e V7 ⟨⟨c2, e2, rfl, h2⟩, hB⟩
          replace hX := hX.trans (hB.mono hX.size)
          obtain ⟨rfl, rfl⟩ := H1.out.same h2
          have kI := fun V => lawIntJ_ok c1 e1 c1 (fun _ => rfl) (fun h => H1.out.zero h) V
          clear hB kD h2
          go_wp2_with fail
          refine (kR _ hX).mono ?_
          rintro e V8 ⟨rfl, hB⟩
          replace hX := hX.trans (hB.mono hX.size)
          clear hB kR
          go_wp2_with fail
          refine (kE _ hX).mono ?_
          rintro e V9 ⟨rfl, hB⟩
          replace hX := hX.trans (hB.mono hX.size)
          clear hB kE
          have hBo := hBw _ hX
          go_wp2_with (first
            | (go_at_call 16; refine (kW _).mono ?_; rintro e v5 ⟨rfl, hv5⟩; obtain rfl : V9 = v5 := hv5.symm; simp only [if_true])
            | (go_at_call 21; (first | with_reducible refine (kI _).mono ?_ | with_reducible refine (kI2 _).mono ?_); rintro e v5 ⟨rfl, hv5⟩; obtain rfl : V9 = v5 := hv5.symm)
            | (go_at_call 10; refine (awake9_ok _ (hgk.below hBo)).mono ?_; rintro e w9 ⟨rfl, hQ9⟩))
          go_ret
          exact ⟨rfl, hBo.trans (hQ9.mono hBo.size)⟩
        · have hX := HXX.out
          have kI2 := fun V => lawIntJ_ok ct 0 ct (fun _ => rfl) (fun h => absurd rfl h) V
          have hlb : decide ((999999999 : Int) < ct) = false := decide_eq_false hlt
          have kW := fun V => lawWhenJ_ok false 4 V
          clear hlt HXX
          go_wp2_with fail
          refine (kC _ hX).mono ?_
          rintro e V6 ⟨rfl, hB⟩
          replace hX := hX.trans (hB.mono hX.size)
          clear hB kC
          go_wp2_with fail
          refine (kD _ hX).mono ?_
          rintro e V7 ⟨⟨c2, e2, rfl, h2⟩, hB⟩
          replace hX := hX.trans (hB.mono hX.size)
          obtain ⟨rfl, rfl⟩ := H1.out.same h2
          have kI := fun V => lawIntJ_ok c1 e1 c1 (fun _ => rfl) (fun h => H1.out.zero h) V
          clear hB kD h2
          go_wp2_with fail
          refine (kR _ hX).mono ?_
          rintro e V8 ⟨rfl, hB⟩
          replace hX := hX.trans (hB.mono hX.size)
          clear hB kR
          go_wp2_with fail
          refine (kE _ hX).mono ?_
          rintro e V9 ⟨rfl, hB⟩
          replace hX := hX.trans (hB.mono hX.size)
          clear hB kE
          have hBo := hBw _ hX
          go_wp2_with (first
            | (go_at_call 16; refine (kW _).mono ?_; rintro e v5 ⟨rfl, hv5⟩; obtain rfl : V9 = v5 := hv5.symm; simp only [Bool.false_eq_true, if_false])
            | (go_at_call 21; (first | with_reducible refine (kI _).mono ?_ | with_reducible refine (kI2 _).mono ?_); rintro e v5 ⟨rfl, hv5⟩; obtain rfl : V9 = v5 := hv5.symm)
            | (go_at_call 10; refine (awake9_ok _ (hgk.below hBo)).mono ?_; rintro e w9 ⟨rfl, hQ9⟩))
          go_ret
          exact ⟨rfl, hBo.trans (hQ9.mono hBo.size)⟩
end Go.Proofs
