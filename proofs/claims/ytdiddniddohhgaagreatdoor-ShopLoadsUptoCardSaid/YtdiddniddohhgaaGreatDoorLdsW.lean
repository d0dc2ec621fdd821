/- ShopLoads: the walk. -/
import Derived.Test.YtdiddniddohhgaaGreatDoorLdsL
import Derived.Test.YtdiddniddohhgaaGreatDoorPakE
import Derived.Test.YtdiddniddohhgaaGreatDoorAwkShop
namespace Go.Proofs
open Go.AM Go.RowKit Go.MapKept
set_option maxHeartbeats 16000000
set_option maxRecDepth 1000000
theorem loads_in (v vo : Value) (l : List ItemT) (cp : Int) (ns : List Int) (w : World) (hgk : GOk gN gRows w) (hl : SlF encQ w v l) (ho : SlI w vo ns) (hn : l.length ≤ 1048576) :
    Calls Tryz.prog 3 #[v, .int .i64 cp, vo] w fun e w' => e = .returned (.bool true) ∧ Below w.heap.size w w' := by
  obtain ⟨n, hx⟩ := iteX_is cp l
  have kOwn := lawItems_ok v l w hl hn
  obtain ⟨Al, cl, rfl⟩ := hl.form
  obtain ⟨Ao, co, rfl⟩ := ho.form
  go_enter Tryz.func3, Tryz.ntmps3
  go_wp2_with fail
  refine kOwn.mono ?_
  rintro e w1 ⟨⟨u, rfl, hu⟩, hB01⟩
  clear kOwn
  have hus := hu.sl encQ_len
  obtain ⟨Au, cu, rfl⟩ := hus.form
  have HCU := Lib.hid (ownF_cap hu)
  have hBw : ∀ V, Below w1.heap.size w1 V → Below w.heap.size w V := fun V h => hB01.trans (h.mono hB01.size)
  have kSh := refShortQ_ok _ l 12 w1 hus
  have ksl : ∀ V, Below w1.heap.size w1 V → SlF encQ V (.slice Al l.length cl) l := fun V h => hl.below (hBw V h)
  have ksu : ∀ V, Below w1.heap.size w1 V → SlF encQ V (.slice Au l.length cu) l := fun V h => hus.below h
  have kso : ∀ V, Below w1.heap.size w1 V → SlI V (.slice Ao ns.length co) ns := fun V h => ho.below (hBw V h)
  have HKSO := Lib.hid kso
  have HX := Lib.hid hx
  have hX := Below.refl w1.heap.size w1
  clear hu hus hl ho hB01 kso hx
  obtain ⟨b6, hb6⟩ : ∃ b, decide ((6 : Int) < (l.length : Int)) = b := ⟨_, rfl⟩
  obtain ⟨b8, hb8⟩ : ∃ b, decide ((l.length : Int) ≤ (8 : Int)) = b := ⟨_, rfl⟩
  obtain ⟨b9, hb9⟩ : ∃ b, decide ((8 : Int) < (l.length : Int)) = b := ⟨_, rfl⟩
  obtain ⟨b20, hb20⟩ : ∃ b, decide ((20 : Int) < (ns.length : Int)) = b := ⟨_, rfl⟩
  have HB6 := Lib.hid hb6
  have HB8 := Lib.hid hb8
  have HB9 := Lib.hid hb9
  have HB20 := Lib.hid hb20
  go_wp2_with fail
  refine kSh.mono ?_
  rintro e V1 ⟨⟨rs, rfl, -⟩, hB⟩
  replace hX := hX.trans (hB.mono hX.size)
  clear hB kSh
  cases rs with
  | false =>
    have hBo := hBw _ hX
    go_wp2_with (go_at_call 7; refine (awake9_ok _ (hgk.below hBo)).mono ?_; rintro e w9 ⟨rfl, hQ9⟩)
    go_ret
    exact ⟨rfl, hBo.trans (hQ9.mono hBo.size)⟩
  | true =>
  cases b20 with
  | true =>
    cases b6 <;> cases b8
    all_goals (
      have hBo := hBw _ hX
      go_wp2_with (go_at_call 7; refine (awake9_ok _ (hgk.below hBo)).mono ?_; rintro e w9 ⟨rfl, hQ9⟩)
      go_ret
      exact ⟨rfl, hBo.trans (hQ9.mono hBo.size)⟩)
  | false =>
  have hcase : (b6 = true ∧ b8 = true ∧ b9 = false) ∨ (b6 = true ∧ b8 = false ∧ b9 = true ∧ 8 < l.length) ∨ (b6 = false ∧ b8 = true ∧ b9 = false ∧ l.length ≤ 6) := by
    rw [← HB6.out, ← HB8.out, ← HB9.out]
    by_cases h5 : (6 : Int) < l.length
    · by_cases h8 : (l.length : Int) ≤ 8
      · exact .inl ⟨decide_eq_true h5, decide_eq_true h8, decide_eq_false (by omega)⟩
      · exact .inr (.inl ⟨decide_eq_true h5, decide_eq_false h8, decide_eq_true (by omega), by omega⟩)
    · exact .inr (.inr ⟨decide_eq_false h5, decide_eq_true (by omega), decide_eq_false (by omega), by omega⟩)
  rcases hcase with ⟨rfl, rfl, rfl⟩ | ⟨rfl, rfl, rfl, hlim⟩ | ⟨rfl, rfl, rfl, hlim⟩
  · have hBo := hBw _ hX
    go_wp2_with (go_at_call 7; refine (awake9_ok _ (hgk.below hBo)).mono ?_; rintro e w9 ⟨rfl, hQ9⟩)
    go_ret
    exact ⟨rfl, hBo.trans (hQ9.mono hBo.size)⟩
  · have hlw : (if 8 < l.length then (22 : Int) else 0) = 22 := if_pos hlim
    have kWh := fun V => lawWhenJ_ok true 22 V
    simp only [if_true] at kWh
    by_cases hz : n = 0
    case neg =>
      have kS := fun V (h : Below w1.heap.size w1 V) => chkLoads_ok cp n l ns _ _ V (ksl V h) (HKSO.out V h) HX.out
      simp only [if_neg hz] at kS
      have kB := fun V (h : Below w1.heap.size w1 V) => loadsE_ok cp n n l _ V (ksl V h) HX.out (by unfold or3; simp [hz]) hz
      have kN := fun V (h : Below w1.heap.size w1 V) => fewestE_ok cp n l _ V (ksl V h) HX.out hz
      have kC := fun V (h : Below w1.heap.size w1 V) => iteR_ok cp n _ l V (ksu V h) HX.out
      have kCJ := fun V (h : Below w1.heap.size w1 V) => iteN_ok cp n _ l V (ksl V h) HX.out
      have kI1 := fun V => lawIntJ_ok 0 n 0 (fun _ => rfl) (fun _ => rfl) V
      have kI2 := kI1
      have kL := fun V => lawListE_ok n hz V
      have hzb : (n == 0) = false := by simpa using hz
      have hor : or3 n 22 0 = n := by unfold or3; simp [hz]
      have HOR := Lib.hid hor
      clear hz hor
      go_wp2_with fail
      refine (kS _ hX).mono ?_
      rintro e V3 ⟨rfl, hB⟩
      replace hX := hX.trans (hB.mono hX.size)
      clear kS
      clear hB
      go_wp2_with fail
      refine (kB _ hX).mono ?_
      rintro e V4 ⟨rfl, hB⟩
      replace hX := hX.trans (hB.mono hX.size)
      clear kB
      clear hB
      go_wp2_with fail
      refine (kN _ hX).mono ?_
      rintro e V5 ⟨rfl, hB⟩
      replace hX := hX.trans (hB.mono hX.size)
      clear kN
      clear hB
      go_wp2_with fail
      refine (kC _ hX).mono ?_
      rintro e V6 ⟨rfl, hB⟩
      replace hX := hX.trans (hB.mono hX.size)
      clear kC
      clear hB
      have hD := hX
      have HXA := Lib.hid (hX.alloc hX.size (.cells #[.int .i64 n, .int .i64 22] 3))
      have ho2 := fun blk W => lawFirst2J n 22 blk 2 W
      rw [show or3 n 22 0 = n from HOR.out] at ho2
      obtain ⟨V7, hV7⟩ : ∃ V7, V7 = V6.alloc (.cells #[.int .i64 n, .int .i64 22] 3) := ⟨_, rfl⟩
      have HV7 := Lib.hid hV7
      rw [← hV7] at HXA
      clear hV7
      go_wp2_with (first
        | (go_at_call 13; refine (kWh _).mono ?_; rintro e v5 ⟨rfl, hv5⟩; obtain rfl : V6 = v5 := hv5.symm)
        | (go_at_call 12; refine (ho2 _ _ ?_ ?_).mono ?_; (go_simp); (go_simp); rintro e v6 ⟨rfl, hv6⟩; subst hv6; rw [← HV7.out]; clear ho2 kWh hD; replace hX := HXA.out))
      go_wp2_with fail
      refine (kCJ _ hX).mono ?_
      rintro e Z1 ⟨rfl, hB⟩
      replace hX := hX.trans (hB.mono hX.size)
      clear hB kCJ
      go_wp2_with fail
      refine (kI1 _).mono ?_
      rintro e Z2 ⟨rfl, hv⟩
      obtain rfl : Z1 = Z2 := hv.symm
      go_wp2_with fail
      refine (kL _).mono ?_
      rintro e Z3 ⟨rfl, hB⟩
      obtain rfl : Z3 = Z1 := hB
      go_wp2_with fail
      refine (kI2 _).mono ?_
      rintro e Z4 ⟨rfl, hv⟩
      obtain rfl : Z3 = Z4 := hv.symm
      have hBo := hBw _ hX
      go_wp2_with (go_at_call 7; refine (awake9_ok _ (hgk.below hBo)).mono ?_; rintro e w9 ⟨rfl, hQ9⟩)
      go_ret
      exact ⟨rfl, hBo.trans (hQ9.mono hBo.size)⟩
    case pos =>
    subst hz
    have ok := HX.out.ok
    have HOK := Lib.hid ok
    have kS := fun V (h : Below w1.heap.size w1 V) => chkLoads_ok cp 0 l ns _ _ V (ksl V h) (HKSO.out V h) HX.out
    simp only [if_true] at kS
    have kN := fun V (h : Below w1.heap.size w1 V) => fewestG_ok cp l _ V (ksl V h) HX.out
    have kC := fun V (h : Below w1.heap.size w1 V) => iteR_ok cp 0 _ l V (ksu V h) HX.out
    have kCJ := fun V (h : Below w1.heap.size w1 V) => iteN_ok cp 0 _ l V (ksl V h) HX.out
    have kRC := fun V (h : Below w1.heap.size w1 V) => refChk_ok cp l ns _ _ V (ksu V h) (HKSO.out V h) (by have := HOK.out.cr; omega) (fun x hx => by have := HOK.out.at_ x hx; have := HOK.out.cr; omega) HOK.out.few
    have kRN := fun V (h : Below w1.heap.size w1 V) => refFew_ok cp l _ V (ksu V h) HOK.out.few HOK.out.cr HOK.out.at_
    obtain ⟨bd, hbd⟩ : ∃ bd, bd = bndF cp (szI l l.length) := ⟨_, rfl⟩
    rw [← hbd] at kN kRN
    obtain ⟨⟨c1, e1⟩, hce⟩ : ∃ t, chkL cp l ns = t := ⟨_, rfl⟩
    have hcz : e1 ≠ 0 → c1 = 0 := fun h => by
      have h2 := chkL_zero (cp := cp) (l := l) (ns := ns) (by rw [hce]; exact h)
      rw [hce] at h2
      exact h2
    rw [hce] at kS kRC
    have kI1 := fun V => lawIntJ_ok c1 e1 c1 (fun _ => rfl) hcz V
    have kI2 := fun V => lawIntJ_ok bd 0 bd (fun _ => rfl) (fun h => absurd rfl h) V
    clear ok hbd hce hcz
    have kB := fun V (h : Below w1.heap.size w1 V) => loadsE_ok cp 0 22 l _ V (ksl V h) HX.out (by rw [hlw]; rfl) (by decide)
    have kL := fun V => lawListE_ok 22 (by decide) V
    go_wp2_with fail
    refine (kS _ hX).mono ?_
    rintro e V3 ⟨rfl, hB⟩
    replace hX := hX.trans (hB.mono hX.size)
    clear kS
    clear hB
    go_wp2_with fail
    refine (kB _ hX).mono ?_
    rintro e V4 ⟨rfl, hB⟩
    replace hX := hX.trans (hB.mono hX.size)
    clear kB
    clear hB
    go_wp2_with fail
    refine (kN _ hX).mono ?_
    rintro e V5 ⟨rfl, hB⟩
    replace hX := hX.trans (hB.mono hX.size)
    clear kN
    clear hB
    go_wp2_with fail
    refine (kC _ hX).mono ?_
    rintro e V6 ⟨rfl, hB⟩
    replace hX := hX.trans (hB.mono hX.size)
    clear kC
    clear hB
    have hD := hX
    have HXA := Lib.hid (hX.alloc hX.size (.cells #[.int .i64 0, .int .i64 22] 3))
    have ho2 := fun blk W => lawFirst2J 0 22 blk 2 W
    rw [show or3 0 22 0 = 22 from rfl] at ho2
    obtain ⟨V7, hV7⟩ : ∃ V7, V7 = V6.alloc (.cells #[.int .i64 0, .int .i64 22] 3) := ⟨_, rfl⟩
    have HV7 := Lib.hid hV7
    rw [← hV7] at HXA
    clear hV7
    go_wp2_with (first
      | (go_at_call 13; refine (kWh _).mono ?_; rintro e v5 ⟨rfl, hv5⟩; obtain rfl : V6 = v5 := hv5.symm)
      | (go_at_call 12; refine (ho2 _ _ ?_ ?_).mono ?_; (go_simp); (go_simp); rintro e v6 ⟨rfl, hv6⟩; subst hv6; rw [← HV7.out]; clear ho2 kWh hD; replace hX := HXA.out))
    go_wp2_with fail
    refine (kRC _ hX).mono ?_
    rintro e VC ⟨rfl, hB⟩
    replace hX := hX.trans (hB.mono hX.size)
    clear kRC
    clear hB
    go_wp2_with fail
    refine (kRN _ hX).mono ?_
    rintro e VN ⟨rfl, hB⟩
    replace hX := hX.trans (hB.mono hX.size)
    clear kRN
    clear hB
    go_wp2_with fail
    refine (kCJ _ hX).mono ?_
    rintro e Z1 ⟨rfl, hB⟩
    replace hX := hX.trans (hB.mono hX.size)
    clear hB kCJ
    go_wp2_with fail
    refine (kI1 _).mono ?_
    rintro e Z2 ⟨rfl, hv⟩
    obtain rfl : Z1 = Z2 := hv.symm
    go_wp2_with fail
    refine (kL _).mono ?_
    rintro e Z3 ⟨rfl, hB⟩
    obtain rfl : Z3 = Z1 := hB
    go_wp2_with fail
    refine (kI2 _).mono ?_
    rintro e Z4 ⟨rfl, hv⟩
    obtain rfl : Z3 = Z4 := hv.symm
    have hBo := hBw _ hX
    go_wp2_with (go_at_call 7; refine (awake9_ok _ (hgk.below hBo)).mono ?_; rintro e w9 ⟨rfl, hQ9⟩)
    go_ret
    exact ⟨rfl, hBo.trans (hQ9.mono hBo.size)⟩
  · have hlw : (if 8 < l.length then (22 : Int) else 0) = 0 := if_neg (by omega)
    have kWh := fun V => lawWhenJ_ok false 22 V
    simp only [Bool.false_eq_true, if_false] at kWh
    by_cases hz : n = 0
    case neg =>
      have kS := fun V (h : Below w1.heap.size w1 V) => chkLoads_ok cp n l ns _ _ V (ksl V h) (HKSO.out V h) HX.out
      simp only [if_neg hz] at kS
      have kB := fun V (h : Below w1.heap.size w1 V) => loadsE_ok cp n n l _ V (ksl V h) HX.out (by unfold or3; simp [hz]) hz
      have kN := fun V (h : Below w1.heap.size w1 V) => fewestE_ok cp n l _ V (ksl V h) HX.out hz
      have kC := fun V (h : Below w1.heap.size w1 V) => iteR_ok cp n _ l V (ksu V h) HX.out
      have kCJ := fun V (h : Below w1.heap.size w1 V) => iteN_ok cp n _ l V (ksl V h) HX.out
      have kI1 := fun V => lawIntJ_ok 0 n 0 (fun _ => rfl) (fun _ => rfl) V
      have kI2 := kI1
      have kL := fun V => lawListE_ok n hz V
      have hzb : (n == 0) = false := by simpa using hz
      have hor : or3 n 0 0 = n := by unfold or3; simp [hz]
      have HOR := Lib.hid hor
      clear hz hor
      go_wp2_with fail
      refine (kS _ hX).mono ?_
      rintro e V3 ⟨rfl, hB⟩
      replace hX := hX.trans (hB.mono hX.size)
      clear kS
      clear hB
      go_wp2_with fail
      refine (kB _ hX).mono ?_
      rintro e V4 ⟨rfl, hB⟩
      replace hX := hX.trans (hB.mono hX.size)
      clear kB
      clear hB
      go_wp2_with fail
      refine (kN _ hX).mono ?_
      rintro e V5 ⟨rfl, hB⟩
      replace hX := hX.trans (hB.mono hX.size)
      clear kN
      clear hB
      go_wp2_with fail
      refine (kC _ hX).mono ?_
      rintro e V6 ⟨rfl, hB⟩
      replace hX := hX.trans (hB.mono hX.size)
      clear kC
      clear hB
      have hD := hX
      have HXA := Lib.hid (hX.alloc hX.size (.cells #[.int .i64 n, .int .i64 0] 3))
      have ho2 := fun blk W => lawFirst2J n 0 blk 2 W
      rw [show or3 n 0 0 = n from HOR.out] at ho2
      obtain ⟨V7, hV7⟩ : ∃ V7, V7 = V6.alloc (.cells #[.int .i64 n, .int .i64 0] 3) := ⟨_, rfl⟩
      have HV7 := Lib.hid hV7
      rw [← hV7] at HXA
      clear hV7
      go_wp2_with (first
        | (go_at_call 13; refine (kWh _).mono ?_; rintro e v5 ⟨rfl, hv5⟩; obtain rfl : V6 = v5 := hv5.symm)
        | (go_at_call 12; refine (ho2 _ _ ?_ ?_).mono ?_; (go_simp); (go_simp); rintro e v6 ⟨rfl, hv6⟩; subst hv6; rw [← HV7.out]; clear ho2 kWh hD; replace hX := HXA.out))
      go_wp2_with fail
      refine (kCJ _ hX).mono ?_
      rintro e Z1 ⟨rfl, hB⟩
      replace hX := hX.trans (hB.mono hX.size)
      clear hB kCJ
      go_wp2_with fail
      refine (kI1 _).mono ?_
      rintro e Z2 ⟨rfl, hv⟩
      obtain rfl : Z1 = Z2 := hv.symm
      go_wp2_with fail
      refine (kL _).mono ?_
      rintro e Z3 ⟨rfl, hB⟩
      obtain rfl : Z3 = Z1 := hB
      go_wp2_with fail
      refine (kI2 _).mono ?_
      rintro e Z4 ⟨rfl, hv⟩
      obtain rfl : Z3 = Z4 := hv.symm
      have hBo := hBw _ hX
      go_wp2_with (go_at_call 7; refine (awake9_ok _ (hgk.below hBo)).mono ?_; rintro e w9 ⟨rfl, hQ9⟩)
      go_ret
      exact ⟨rfl, hBo.trans (hQ9.mono hBo.size)⟩
    case pos =>
    subst hz
    have ok := HX.out.ok
    have HOK := Lib.hid ok
    have kS := fun V (h : Below w1.heap.size w1 V) => chkLoads_ok cp 0 l ns _ _ V (ksl V h) (HKSO.out V h) HX.out
    simp only [if_true] at kS
    have kN := fun V (h : Below w1.heap.size w1 V) => fewestG_ok cp l _ V (ksl V h) HX.out
    have kC := fun V (h : Below w1.heap.size w1 V) => iteR_ok cp 0 _ l V (ksu V h) HX.out
    have kCJ := fun V (h : Below w1.heap.size w1 V) => iteN_ok cp 0 _ l V (ksl V h) HX.out
    have kRC := fun V (h : Below w1.heap.size w1 V) => refChk_ok cp l ns _ _ V (ksu V h) (HKSO.out V h) (by have := HOK.out.cr; omega) (fun x hx => by have := HOK.out.at_ x hx; have := HOK.out.cr; omega) HOK.out.few
    have kRN := fun V (h : Below w1.heap.size w1 V) => refFew_ok cp l _ V (ksu V h) HOK.out.few HOK.out.cr HOK.out.at_
    obtain ⟨bd, hbd⟩ : ∃ bd, bd = bndF cp (szI l l.length) := ⟨_, rfl⟩
    rw [← hbd] at kN kRN
    obtain ⟨⟨c1, e1⟩, hce⟩ : ∃ t, chkL cp l ns = t := ⟨_, rfl⟩
    have hcz : e1 ≠ 0 → c1 = 0 := fun h => by
      have h2 := chkL_zero (cp := cp) (l := l) (ns := ns) (by rw [hce]; exact h)
      rw [hce] at h2
      exact h2
    rw [hce] at kS kRC
    have kI1 := fun V => lawIntJ_ok c1 e1 c1 (fun _ => rfl) hcz V
    have kI2 := fun V => lawIntJ_ok bd 0 bd (fun _ => rfl) (fun h => absurd rfl h) V
    clear ok hbd hce hcz
    have kB := fun V (h : Below w1.heap.size w1 V) => loads_ok cp l _ V (ksl V h) HX.out (by omega)
    have kRB := fun V (h : Below w1.heap.size w1 V) => refLoads_ok (Al := Au) (cl := cu) ⟨HCU.out, by omega, by have := HOK.out.cr; omega, fun x hx => by have := HOK.out.at_ x hx; have := HOK.out.cr; omega⟩ (fun x hx => (HOK.out.at_ x hx).2) V (ksu V h)
    have hl6 : l.length ≤ 1000 := by omega
    have HL6 := Lib.hid hl6
    clear hl6
    go_wp2_with fail
    refine (kS _ hX).mono ?_
    rintro e V3 ⟨rfl, hB⟩
    replace hX := hX.trans (hB.mono hX.size)
    clear kS
    clear hB
    go_wp2_with fail
    refine (kB _ hX).mono ?_
    rintro e V4 ⟨⟨A3, c3, M, b, rfl, hbs, hbest, -⟩, hB⟩
    replace hX := hX.trans (hB.mono hX.size)
    have HBS := Lib.hid (And.intro hbs hbest)
    have hY := Below.refl V4.heap.size V4
    clear hB kB hbs hbest
    go_wp2_with fail
    refine (kN _ hX).mono ?_
    rintro e V5 ⟨rfl, hB⟩
    replace hX := hX.trans (hB.mono hX.size)
    replace hY := hY.trans (hB.mono hY.size)
    clear kN
    clear hB
    go_wp2_with fail
    refine (kC _ hX).mono ?_
    rintro e V6 ⟨rfl, hB⟩
    replace hX := hX.trans (hB.mono hX.size)
    replace hY := hY.trans (hB.mono hY.size)
    clear kC
    clear hB
    have hD := hX
    have HXA := Lib.hid (hX.alloc hX.size (.cells #[.int .i64 0, .int .i64 0] 3))
    have HYA := Lib.hid (hY.alloc hY.size (.cells #[.int .i64 0, .int .i64 0] 3))
    have ho2 := fun blk W => lawFirst2J 0 0 blk 2 W
    rw [show or3 0 0 0 = 0 from rfl] at ho2
    obtain ⟨V7, hV7⟩ : ∃ V7, V7 = V6.alloc (.cells #[.int .i64 0, .int .i64 0] 3) := ⟨_, rfl⟩
    have HV7 := Lib.hid hV7
    rw [← hV7] at HXA HYA
    clear hV7
    go_wp2_with (first
      | (go_at_call 13; refine (kWh _).mono ?_; rintro e v5 ⟨rfl, hv5⟩; obtain rfl : V6 = v5 := hv5.symm)
      | (go_at_call 12; refine (ho2 _ _ ?_ ?_).mono ?_; (go_simp); (go_simp); rintro e v6 ⟨rfl, hv6⟩; subst hv6; rw [← HV7.out]; clear ho2 kWh hD; replace hX := HXA.out; replace hY := HYA.out))
    go_wp2_with fail
    refine (kRC _ hX).mono ?_
    rintro e VC ⟨rfl, hB⟩
    replace hX := hX.trans (hB.mono hX.size)
    replace hY := hY.trans (hB.mono hY.size)
    clear kRC
    clear hB
    go_wp2_with fail
    refine (kRN _ hX).mono ?_
    rintro e VN ⟨rfl, hB⟩
    replace hX := hX.trans (hB.mono hX.size)
    replace hY := hY.trans (hB.mono hY.size)
    clear kRN
    clear hB
    go_wp2_with fail
    refine (kRB _ hX).mono ?_
    rintro e VB ⟨⟨M2, b2, ur, rfl, hur, hb2⟩, hB⟩
    replace hX := hX.trans (hB.mono hX.size)
    replace hY := hY.trans (hB.mono hY.size)
    obtain ⟨-, rfl⟩ := best_uniq HBS.out.2 hb2
    have HUR := Lib.hid hur
    have hQ := Below.refl VB.heap.size VB
    clear hB kRB hur hb2
    go_wp2_with fail
    refine (kCJ _ hX).mono ?_
    rintro e Z1 ⟨rfl, hB⟩
    replace hX := hX.trans (hB.mono hX.size)
    replace hY := hY.trans (hB.mono hY.size)
    replace hQ := hQ.trans (hB.mono hQ.size)
    clear hB kCJ
    go_wp2_with fail
    refine (kI1 _).mono ?_
    rintro e Z2 ⟨rfl, hv⟩
    obtain rfl : Z1 = Z2 := hv.symm
    go_wp2_with fail
    refine (lawList0_ok _ _ _ _ (HBS.out.1.below hY) (HUR.out.below hQ) (by rw [HBS.out.2.full.len]; exact HL6.out)).mono ?_
    rintro e Z3 ⟨rfl, hB⟩
    replace hX := hX.trans (hB.mono hX.size)
    clear hB
    go_wp2_with fail
    refine (kI2 _).mono ?_
    rintro e Z4 ⟨rfl, hv⟩
    obtain rfl : Z3 = Z4 := hv.symm
    have hBo := hBw _ hX
    go_wp2_with (go_at_call 7; refine (awake9_ok _ (hgk.below hBo)).mono ?_; rintro e w9 ⟨rfl, hQ9⟩)
    go_ret
    exact ⟨rfl, hBo.trans (hQ9.mono hBo.size)⟩
end Go.Proofs
