/- ShopOrders: the walk. -/
import Derived.Test.YtokfniicbeemdaaGreatDoorOrdB
import Derived.Test.YtokfniicbeemdaaGreatDoorBndF
import Derived.Test.YtokfniicbeemdaaGreatDoorSumB
import Derived.Test.YtokfniicbeemdaaGreatDoorAwkShop
namespace Go.Proofs
open Go.AM Go.RowKit Go.MapKept
set_option maxHeartbeats 16000000
set_option maxRecDepth 1000000
theorem capJ_of {w : World} {v : Value} {L : List JobV} {js : List JobT} (hl : SlF encJ w v L) (hi : InJ w L js) (hc : YtokfniicbeemdaaGreatDoor.CapL L) : CapJ w v js := fun b o n c e k j hk => by
  obtain ⟨x, hx⟩ : ∃ x, L[k]? = some x := ⟨_, List.getElem?_eq_getElem (by rw [hi.1]; exact (List.getElem?_eq_some_iff.1 hk).1)⟩
  obtain ⟨g1, g2, g3⟩ := hi.2 k x j hx hk
  subst e
  obtain ⟨b', o', e2, -, -, -, c1, c2⟩ := jbv_cells hl hx
  injection e2 with e2
  injection e2 with e3 e4
  subst e3 e4
  obtain ⟨p1, p2⟩ := hc x (List.mem_of_getElem? hx)
  obtain ⟨nm, ⟨A, n1, k1⟩, A', n2, k2⟩ := x
  dsimp only at c1 c2 g2 g3 p1 p2
  obtain ⟨_, _, e5⟩ := g2.form
  obtain ⟨_, _, e6⟩ := g3.form
  unfold vS at e5 e6
  injection e5 with _ e5 _
  injection e6 with _ e6 _
  dsimp only at e5 e6
  subst e5 e6
  exact ⟨_, _, _, _, c1, c2, p1, p2⟩
theorem bestErr_ok (js : List JobT) (v : Value) (n e : Int) (w : World) (hl : SlJ w v js) (hs : ∀ j ∈ js, j.2.1.length ≤ 1000 ∧ j.2.2.length ≤ 1000) (hx : JobX js n) (he : or3 n (if 8 < js.length then 22 else 0) 0 = e) (hz : e ≠ 0) :
    Calls Tryz.prog 26 #[v] w fun x w' => x = .returned (.tuple #[.slice none 0 0, .int .i64 e]) ∧ Below w.heap.size w w' := by
  have kJ := fun W (h : Below w.heap.size w W) => shJobN_ok js v n W (hl.below h) hs hx
  obtain ⟨A, cap, rfl⟩ := hl.form
  obtain ⟨b8, hb8⟩ : ∃ b, decide ((8 : Int) < (js.length : Int)) = b := ⟨_, rfl⟩
  have hw1 := fun W => shWhen_ok b8 22 W
  obtain ⟨y, hy⟩ : ∃ y : Int, y = (if b8 = true then 22 else 0) := ⟨_, rfl⟩
  rw [← hy] at hw1
  have hye : y = (if 8 < js.length then 22 else 0) := by
    rw [hy, ← hb8]
    by_cases h : 8 < js.length
    · rw [if_pos h, if_pos (decide_eq_true (by omega))]
    · rw [if_neg h, if_neg (by simp; omega)]
  rw [← hye] at he
  have ho := fun blk W => shFirst2 n y blk 2 W
  rw [he] at ho
  have hnz : (e != 0) = true := by simpa using hz
  obtain ⟨W0, hW⟩ : ∃ W0, W0 = w.alloc (.cells #[.slice A js.length cap] 44) := ⟨_, rfl⟩
  have hB0 : Below w.heap.size w W0 := by subst hW; exact (Below.refl _ _).alloc (Nat.le_refl _) _
  have rj : RowK W0 44 w.heap.size [.slice A js.length cap] := by subst hW; exact heap_alloc_new w _
  have kk : ∀ V, Below W0.heap.size W0 V → V.cell? ⟨w.heap.size, 0, none⟩ = some (.slice A js.length cap) := fun V h => (rj.below h).cell (by rfl)
  have hD := (Below.refl W0.heap.size W0).drew
  have hky := kk _ hD
  have hDw := hB0.trans (hD.mono hB0.size)
  have HKJ := Lib.hid kJ
  have HKK := Lib.hid kk
  have HB0 := Lib.hid hB0
  clear kJ kk hl hs hx he hz hye hy hB0
  go_enter Tryz.func26, Tryz.ntmps26
  go_wp2_with fail
  rw [← hW]
  clear hW
  go_region_held3 (fun w' => w'.cell? ⟨w.heap.size, 0, none⟩ = some (.slice A js.length cap)) (first | exact hky | exact hkyA | go_keep)
    (first
      | (go_at_call 33; refine (HKJ.out _ hDw).mono ?_; rintro x v1 ⟨rfl, hQ1⟩; have hX1 := hD.trans (hQ1.mono hD.size); have hky := HKK.out _ hX1; have hX2 := (hX1.alloc hX1.size (.cells #[.int .i64 n, .int .i64 y] 28)); have hkyA := HKK.out _ hX2)
      | (go_at_call 55; refine (hw1 _).mono ?_; rintro x v2 ⟨rfl, hv2⟩; obtain rfl : v1 = v2 := hv2.symm)
      | (go_at_call 54; refine (ho _ _ ?_ ?_).mono ?_; (go_simp); (go_simp); rintro x w5 ⟨rfl, rfl⟩))
  rename_i hHeld
  clear hHeld hkyA hky hw1 ho hX1 hQ1
  have hXE := HB0.out.trans (hX2.mono HB0.out.size)
  go_wp2_with fail
  go_ret2
  exact ⟨rfl, hXE⟩
theorem lawList0_ok (v1 v2 : Value) (l : List Int) (w : World) (h1 : SlI w v1 l) (h2 : SlI w v2 l) (hn : l.length ≤ 1000) :
    Calls Tryz.prog 22 #[v1, .int .i64 0, v2, .int .i64 0] w fun e w' => e = .returned (.bool true) ∧ Below w.heap.size w w' := by
  have kS := refSameInts_ok l v1 v2 w h1 h2 hn
  clear h1 h2
  go_enter Tryz.func22, Tryz.ntmps22
  go_wp2_with (go_at_call 48; refine kS.mono ?_; rintro e w2 ⟨rfl, hB⟩)
  go_ret
  exact ⟨rfl, hB⟩
theorem lawListE_ok (e : Int) (he : e ≠ 0) (w : World) :
    Calls Tryz.prog 22 #[.slice none 0 0, .int .i64 e, .slice none 0 0, .int .i64 e] w fun x w' => x = .returned (.bool true) ∧ w' = w := by
  have h1 : (e == 0) = false := by simpa using he
  have h2 : (e != 0) = true := by simpa using he
  clear he
  go_enter Tryz.func22, Tryz.ntmps22
  go_wp2
  all_goals (go_ret; exact ⟨rfl, rfl⟩)
theorem orders_in (v vo : Value) (L : List JobV) (js : List JobT) (o : List Int) (w : World) (hgk : GOk gN gRows w) (hl : SlF encJ w v L) (hi : InJ w L js) (hcap : YtokfniicbeemdaaGreatDoor.CapL L) (ho : SlI w vo o) (hn : L.length ≤ 1048576) :
    Calls Tryz.prog 4 #[v, vo] w fun e w' => e = .returned (.bool true) ∧ Below w.heap.size w w' := by
  obtain ⟨n, hx⟩ := jobX_ex js
  have kOwn := lawOwn_ok v L w hl hn
  have hlj := InJ.slj hl hi
  have hljc : SlJC w v js := ⟨hlj, capJ_of hl hi hcap⟩
  have HLJ := Lib.hid hi.1
  obtain ⟨Al, cl, rfl⟩ := hl.form
  obtain ⟨Ao, co, rfl⟩ := ho.form
  go_enter Tryz.func4, Tryz.ntmps4
  go_wp2_with fail
  refine kOwn.mono ?_
  rintro e w1 ⟨⟨u, rfl, hu⟩, hB1⟩
  clear kOwn
  have hus := hu.sl encJ_len
  obtain ⟨Au, cu, rfl⟩ := hus.form
  have huj := InJ.slj hus (hi.below hB1)
  have hBw : ∀ V, Below w1.heap.size w1 V → Below w.heap.size w V := fun V h => hB1.trans (h.mono hB1.size)
  have kSh := refShortJ_ok _ L 12 w1 hus
  have HIJ := Lib.hid hi
  rw [HLJ.out] at hlj hljc huj kSh ⊢
  have ksl : ∀ V, Below w1.heap.size w1 V → SlJ V (.slice Al js.length cl) js := fun V h => hlj.below (hBw V h)
  have ksc : ∀ V, Below w1.heap.size w1 V → SlJC V (.slice Al js.length cl) js := fun V h => hljc.below (hBw V h)
  have ksu : ∀ V, Below w1.heap.size w1 V → SlJ V (.slice Au js.length cu) js := fun V h => huj.below h
  have kso : ∀ V, Below w1.heap.size w1 V → SlI V (.slice Ao o.length co) o := fun V h => ho.below (hBw V h)
  have hX := Below.refl w1.heap.size w1
  clear hu hus hl hi ho hlj huj hljc hcap
  obtain ⟨b5, hb5⟩ : ∃ b, decide ((5 : Int) < (js.length : Int)) = b := ⟨_, rfl⟩
  obtain ⟨b8, hb8⟩ : ∃ b, decide ((js.length : Int) ≤ (8 : Int)) = b := ⟨_, rfl⟩
  obtain ⟨b9, hb9⟩ : ∃ b, decide ((8 : Int) < (js.length : Int)) = b := ⟨_, rfl⟩
  obtain ⟨b40, hb40⟩ : ∃ b, decide ((40 : Int) < (o.length : Int)) = b := ⟨_, rfl⟩
  have HB5 := Lib.hid hb5
  have HB8 := Lib.hid hb8
  have HB9 := Lib.hid hb9
  have HB40 := Lib.hid hb40
  go_wp2_with fail
  refine kSh.mono ?_
  rintro e V1 ⟨⟨rs, rfl, hSh⟩, hB⟩
  replace hX := hX.trans (hB.mono hX.size)
  clear hB kSh
  cases rs with
  | false =>
    have hBo := hBw _ hX
    clear hSh
    go_wp2_with (go_at_call 10; refine (awake9_ok _ (hgk.below hBo)).mono ?_; rintro e w9 ⟨rfl, hQ9⟩)
    go_ret
    exact ⟨rfl, hBo.trans (hQ9.mono hBo.size)⟩
  | true =>
  have HSH := Lib.hid (hSh rfl)
  clear hSh
  have hs : ∀ j ∈ js, j.2.1.length ≤ 1000 ∧ j.2.2.length ≤ 1000 := fun j hj => by
    obtain ⟨k, hk⟩ := List.mem_iff_getElem?.1 hj
    obtain ⟨nm, A, n1, c, A', n2, c', t, d, h1, h2, h3, h4, h5, h6⟩ := HIJ.out.some_ (List.getElem?_eq_some_iff.1 hk).1
    obtain rfl := Option.some.inj (hk.symm.trans h2)
    have := HSH.out.2.2 k _ h1
    dsimp only at this ⊢
    omega
  have HJS := Lib.hid hs
  have HX := Lib.hid hx
  clear hs hx
  have HKSO := Lib.hid kso
  cases b40 with
  | true =>
    cases b5 <;> cases b8
    all_goals (
      have hBo := hBw _ hX
      go_wp2_with (go_at_call 10; refine (awake9_ok _ (hgk.below hBo)).mono ?_; rintro e w9 ⟨rfl, hQ9⟩)
      go_ret
      exact ⟨rfl, hBo.trans (hQ9.mono hBo.size)⟩)
  | false =>
  have hol : o.length ≤ 40 := by have := of_decide_eq_false HB40.out; omega
  have HOL := Lib.hid hol
  clear hol
  have hcase : (b5 = true ∧ b8 = true ∧ b9 = false) ∨ (b5 = true ∧ b8 = false ∧ b9 = true ∧ 8 < js.length) ∨ (b5 = false ∧ b8 = true ∧ b9 = false ∧ js.length ≤ 5) := by
    rw [← HB5.out, ← HB8.out, ← HB9.out]
    by_cases h5 : (5 : Int) < js.length
    · by_cases h8 : (js.length : Int) ≤ 8
      · exact .inl ⟨decide_eq_true h5, decide_eq_true h8, decide_eq_false (by omega)⟩
      · exact .inr (.inl ⟨decide_eq_true h5, decide_eq_false h8, decide_eq_true (by omega), by omega⟩)
    · exact .inr (.inr ⟨decide_eq_false h5, decide_eq_true (by omega), decide_eq_false (by omega), by omega⟩)
  rcases hcase with ⟨rfl, rfl, rfl⟩ | ⟨rfl, rfl, rfl, hlim⟩ | ⟨rfl, rfl, rfl, hlim⟩
  · have hBo := hBw _ hX
    go_wp2_with (go_at_call 10; refine (awake9_ok _ (hgk.below hBo)).mono ?_; rintro e w9 ⟨rfl, hQ9⟩)
    go_ret
    exact ⟨rfl, hBo.trans (hQ9.mono hBo.size)⟩
  · have hlw : (if 8 < js.length then (22 : Int) else 0) = 22 := if_pos hlim
    have kWh := fun V => lawWhenJ_ok true 22 V
    simp only [if_true] at kWh
    by_cases hz : n = 0
    case neg =>
      have kS := fun V (h : Below w1.heap.size w1 V) => shStsA_ok js _ (.slice Ao o.length co) n V (ksl V h) HJS.out HX.out hz
      have kB := fun V (h : Below w1.heap.size w1 V) => bestErr_ok js _ n n V (ksl V h) HJS.out HX.out (by unfold or3; simp [hz]) hz
      have kN := fun V (h : Below w1.heap.size w1 V) => shBndA_ok js _ n V (ksl V h) HJS.out HX.out hz
      have kC := fun V (h : Below w1.heap.size w1 V) => refJobN_ok js _ n V (ksu V h) HJS.out HX.out
      have kCJ := fun V (h : Below w1.heap.size w1 V) => shJobN_ok js _ n V (ksl V h) HJS.out HX.out
      have kI := fun V => lawIntJ_ok 0 n 0 (fun _ => rfl) (fun _ => rfl) V
      have kL := fun V => lawListE_ok n hz V
      have hzb : (n == 0) = false := by simpa using hz
      have hor : or3 n 22 0 = n := by unfold or3; simp [hz]
      have HOR := Lib.hid hor
      clear hz hor
      go_wp2_with fail
      refine (kS _ hX).mono ?_
      rintro e V3 ⟨rfl, hB⟩
      replace hX := hX.trans (hB.mono hX.size)
      clear kS
      clear hB
      go_wp2_with fail
      refine (kB _ hX).mono ?_
      rintro e V4 ⟨rfl, hB⟩
      replace hX := hX.trans (hB.mono hX.size)
      clear kB
      clear hB
      go_wp2_with fail
      refine (kN _ hX).mono ?_
      rintro e V5 ⟨rfl, hB⟩
      replace hX := hX.trans (hB.mono hX.size)
      clear kN
      clear hB
      go_wp2_with fail
      refine (kC _ hX).mono ?_
      rintro e V6 ⟨rfl, hB⟩
      replace hX := hX.trans (hB.mono hX.size)
      clear hB
      have hD := hX
      have HXA := Lib.hid (hX.alloc hX.size (.cells #[.int .i64 n, .int .i64 22] 3))
      have ho2 := fun blk W => lawFirst2J n 22 blk 2 W
      rw [show or3 n 22 0 = n from HOR.out] at ho2
      obtain ⟨V7, hV7⟩ : ∃ V7, V7 = V6.alloc (.cells #[.int .i64 n, .int .i64 22] 3) := ⟨_, rfl⟩
      have HV7 := Lib.hid hV7
      rw [← hV7] at HXA
      clear hV7
      go_wp2_with (first
        | (go_at_call 16; refine (kWh _).mono ?_; rintro e v5 ⟨rfl, hv5⟩; obtain rfl : V6 = v5 := hv5.symm)
        | (go_at_call 15; refine (ho2 _ _ ?_ ?_).mono ?_; (go_simp); (go_simp); rintro e v6 ⟨rfl, hv6⟩; subst hv6; rw [← HV7.out]; clear ho2 kWh hD; replace hX := HXA.out))
      go_wp2_with fail
      refine (kCJ _ hX).mono ?_
      rintro e Z1 ⟨rfl, hB⟩
      replace hX := hX.trans (hB.mono hX.size)
      clear hB kCJ
      go_wp2_with fail
      refine ((refSameLists_ok [] _ _ _ (.inl ⟨rfl, rfl⟩) (.inl ⟨rfl, rfl⟩) (by simp) (by simp))).mono ?_
      rintro e Z2 ⟨rfl, hB⟩
      replace hX := hX.trans (hB.mono hX.size)
      clear hB
      go_wp2_with fail
      refine (kL _).mono ?_
      rintro e Z3 ⟨rfl, hB⟩
      obtain rfl : Z3 = Z2 := hB
      go_wp2_with fail
      refine (kI _).mono ?_
      rintro e Z4 ⟨rfl, hv⟩
      obtain rfl : Z3 = Z4 := hv.symm
      have hBo := hBw _ hX
      go_wp2_with (go_at_call 10; refine (awake9_ok _ (hgk.below hBo)).mono ?_; rintro e w9 ⟨rfl, hQ9⟩)
      go_ret
      exact ⟨rfl, hBo.trans (hQ9.mono hBo.size)⟩
    case pos =>
    subst hz
    have ok := HX.out.ok
    have hm8 : 0 < stN js := by
      obtain ⟨j0, hj0⟩ : ∃ j, js[0]? = some j := ⟨_, List.getElem?_eq_getElem ok.pos⟩
      have hjo0 := ok.ok _ (List.mem_of_getElem? hj0)
      have h1 := hjo0.d
      omega
    have HM8 := Lib.hid hm8
    clear hm8 ok
    have kC := fun V (h : Below w1.heap.size w1 V) => refJobN_ok js _ 0 V (ksu V h) HJS.out HX.out
    have kCJ := fun V (h : Below w1.heap.size w1 V) => shJobN_ok js _ 0 V (ksl V h) HJS.out HX.out
    have kN := fun V (h : Below w1.heap.size w1 V) => shBound_ok js _ V (ksc V h) HJS.out HX.out
    have kRN := fun V (h : Below w1.heap.size w1 V) => refBound2_ok js (stN js) _ V (ksu V h) HX.out.ok rfl
    have kO := fun V (h : Below w1.heap.size w1 V) => refCheckOrder_ok o js _ _ V (ksu V h) (HKSO.out V h) (by have := HOL.out; omega)
    have kB := fun V (h : Below w1.heap.size w1 V) => bestErr_ok js _ 0 22 V (ksl V h) HJS.out HX.out (by rw [hlw]; rfl) (by decide)
    have kL := fun V => lawListE_ok 22 (by decide) V
    obtain ⟨bd, hbd⟩ : ∃ bd, bd = bndK js (stN js) := ⟨_, rfl⟩
    rw [← hbd] at kN kRN
    clear hbd
    have kI := fun V => lawIntJ_ok bd 0 bd (fun _ => rfl) (fun h => absurd rfl h) V
    obtain ⟨eo, heo⟩ := ordX_ex o js.length
    have HEO := Lib.hid heo
    clear heo
    by_cases hz : eo = 0
    case neg =>
      have kS := fun V (h : Below w1.heap.size w1 V) => shStsB_ok js o _ _ eo V (ksl V h) HJS.out HX.out (HKSO.out V h) (by have := HOL.out; omega) HEO.out hz
      have hzb : (eo == 0) = false := by simpa using hz
      clear hz
      go_wp2_with fail
      refine (kS _ hX).mono ?_
      rintro e V3 ⟨rfl, hB⟩
      replace hX := hX.trans (hB.mono hX.size)
      clear kS
      clear hB
      go_wp2_with fail
      refine (kB _ hX).mono ?_
      rintro e V4 ⟨rfl, hB⟩
      replace hX := hX.trans (hB.mono hX.size)
      clear kB
      clear hB
      go_wp2_with fail
      refine (kN _ hX).mono ?_
      rintro e V5 ⟨rfl, hB⟩
      replace hX := hX.trans (hB.mono hX.size)
      clear kN
      clear hB
      go_wp2_with fail
      refine (kC _ hX).mono ?_
      rintro e V6 ⟨rfl, hB⟩
      replace hX := hX.trans (hB.mono hX.size)
      clear hB
      have hD := hX
      have HXA := Lib.hid (hX.alloc hX.size (.cells #[.int .i64 0, .int .i64 22] 3))
      have ho2 := fun blk W => lawFirst2J 0 22 blk 2 W
      rw [show or3 0 22 0 = 22 from rfl] at ho2
      obtain ⟨V7, hV7⟩ : ∃ V7, V7 = V6.alloc (.cells #[.int .i64 0, .int .i64 22] 3) := ⟨_, rfl⟩
      have HV7 := Lib.hid hV7
      rw [← hV7] at HXA
      clear hV7
      go_wp2_with (first
        | (go_at_call 16; refine (kWh _).mono ?_; rintro e v5 ⟨rfl, hv5⟩; obtain rfl : V6 = v5 := hv5.symm)
        | (go_at_call 15; refine (ho2 _ _ ?_ ?_).mono ?_; (go_simp); (go_simp); rintro e v6 ⟨rfl, hv6⟩; subst hv6; rw [← HV7.out]; clear ho2 kWh hD; replace hX := HXA.out))
      go_wp2_with fail
      refine (kO _ hX).mono ?_
      rintro e VO ⟨⟨x, rfl, hxo⟩, hB⟩
      obtain rfl := HEO.out.same hxo
      replace hX := hX.trans (hB.mono hX.size)
      clear hB kO hxo
      go_wp2_with fail
      refine (kRN _ hX).mono ?_
      rintro e VN ⟨rfl, hB⟩
      replace hX := hX.trans (hB.mono hX.size)
      clear kRN
      clear hB
      go_wp2_with fail
      refine (kCJ _ hX).mono ?_
      rintro e Z1 ⟨rfl, hB⟩
      replace hX := hX.trans (hB.mono hX.size)
      clear hB kCJ
      go_wp2_with fail
      refine ((refSameLists_ok [] _ _ _ (.inl ⟨rfl, rfl⟩) (.inl ⟨rfl, rfl⟩) (by simp) (by simp))).mono ?_
      rintro e Z2 ⟨rfl, hB⟩
      replace hX := hX.trans (hB.mono hX.size)
      clear hB
      go_wp2_with fail
      refine (kL _).mono ?_
      rintro e Z3 ⟨rfl, hB⟩
      obtain rfl : Z3 = Z2 := hB
      go_wp2_with fail
      refine (kI _).mono ?_
      rintro e Z4 ⟨rfl, hv⟩
      obtain rfl : Z3 = Z4 := hv.symm
      have hBo := hBw _ hX
      go_wp2_with (go_at_call 10; refine (awake9_ok _ (hgk.below hBo)).mono ?_; rintro e w9 ⟨rfl, hQ9⟩)
      go_ret
      exact ⟨rfl, hBo.trans (hQ9.mono hBo.size)⟩
    case pos =>
    subst hz
    obtain ⟨p, hop, hp⟩ := HEO.out.ok
    subst hop
    have kS := fun V (h : Below w1.heap.size w1 V) => shStsC_ok js p _ _ V (ksl V h) HJS.out HX.out (HKSO.out V h) hp
    have kRS := fun V (h : Below w1.heap.size w1 V) => refSts_ok js p (stN js) _ _ V (ksu V h) HX.out.ok rfl (HKSO.out V h) hp
    have hsl : (schP js (stN js) p).length ≤ 1000 := by
      have h1 : (schP js (stN js) p).length = js.length := schK_len ..
      have := HX.out.ok.few
      omega
    have hsx : ∀ x ∈ schP js (stN js) p, x.length ≤ 1000 := fun x hx => by
      have h1 := (sch_num HX.out.ok.ok HX.out.ok.few hp x hx).1
      obtain ⟨j0, hj0⟩ : ∃ j, js[0]? = some j := ⟨_, List.getElem?_eq_getElem HX.out.ok.pos⟩
      have := (HX.out.ok.ok _ (List.mem_of_getElem? hj0)).few
      omega
    have HSL := Lib.hid (And.intro hsl hsx)
    have hSl2 : (schP js (stN js) p).length = js.length := schK_len ..
    obtain ⟨SP, hSP⟩ : ∃ SP, SP = schP js (stN js) p := ⟨_, rfl⟩
    rw [← hSP] at kS kRS HSL hSl2
    have HSPL := Lib.hid hSl2
    clear hSP hsl hsx hp hSl2
    go_wp2_with fail
    refine (kS _ hX).mono ?_
    rintro e V3 ⟨⟨gS, rfl, -, hSr⟩, hB⟩
    replace hX := hX.trans (hB.mono hX.size)
    have hSs := SchRow.sl (cap := js.length) hSr
    rw [HSPL.out] at hSs
    have HSS := Lib.hid hSs
    have hR := Below.refl V3.heap.size V3
    clear hB kS hSr hSs
    go_wp2_with fail
    refine (kB _ hX).mono ?_
    rintro e V4 ⟨rfl, hB⟩
    replace hX := hX.trans (hB.mono hX.size)
    replace hR := hR.trans (hB.mono hR.size)
    clear kB
    clear hB
    go_wp2_with fail
    refine (kN _ hX).mono ?_
    rintro e V5 ⟨rfl, hB⟩
    replace hX := hX.trans (hB.mono hX.size)
    replace hR := hR.trans (hB.mono hR.size)
    clear kN
    clear hB
    go_wp2_with fail
    refine (kC _ hX).mono ?_
    rintro e V6 ⟨rfl, hB⟩
    replace hX := hX.trans (hB.mono hX.size)
    replace hR := hR.trans (hB.mono hR.size)
    clear hB
    have hD := hX
    have HRA := Lib.hid (hR.alloc hR.size (.cells #[.int .i64 0, .int .i64 22] 3))
    have HXA := Lib.hid (hX.alloc hX.size (.cells #[.int .i64 0, .int .i64 22] 3))
    have ho2 := fun blk W => lawFirst2J 0 22 blk 2 W
    rw [show or3 0 22 0 = 22 from rfl] at ho2
    obtain ⟨V7, hV7⟩ : ∃ V7, V7 = V6.alloc (.cells #[.int .i64 0, .int .i64 22] 3) := ⟨_, rfl⟩
    have HV7 := Lib.hid hV7
    rw [← hV7] at HRA HXA
    clear hV7
    go_wp2_with (first
      | (go_at_call 16; refine (kWh _).mono ?_; rintro e v5 ⟨rfl, hv5⟩; obtain rfl : V6 = v5 := hv5.symm)
      | (go_at_call 15; refine (ho2 _ _ ?_ ?_).mono ?_; (go_simp); (go_simp); rintro e v6 ⟨rfl, hv6⟩; subst hv6; rw [← HV7.out]; clear ho2 kWh hD; replace hX := HXA.out; replace hR := HRA.out))
    go_wp2_with fail
    refine (kO _ hX).mono ?_
    rintro e VO ⟨⟨x, rfl, hxo⟩, hB⟩
    obtain rfl := HEO.out.same hxo
    replace hX := hX.trans (hB.mono hX.size)
    replace hR := hR.trans (hB.mono hR.size)
    clear hB kO hxo
    go_wp2_with fail
    refine (kRN _ hX).mono ?_
    rintro e VN ⟨rfl, hB⟩
    replace hX := hX.trans (hB.mono hX.size)
    replace hR := hR.trans (hB.mono hR.size)
    clear kRN
    clear hB
    go_wp2_with fail
    refine (kRS _ hX).mono ?_
    rintro e VS ⟨⟨uS, rfl, huS⟩, hB⟩
    replace hX := hX.trans (hB.mono hX.size)
    replace hR := hR.trans (hB.mono hR.size)
    obtain ⟨AS, cS, huf⟩ := huS.form
    subst huf
    have HUS2 := Lib.hid huS
    have hP := Below.refl VS.heap.size VS
    clear hB kRS huS
    go_wp2_with fail
    refine (kCJ _ hX).mono ?_
    rintro e Z1 ⟨rfl, hB⟩
    replace hX := hX.trans (hB.mono hX.size)
    replace hR := hR.trans (hB.mono hR.size)
    replace hP := hP.trans (hB.mono hP.size)
    clear hB kCJ
    go_wp2_with fail
    refine (refSameLists_ok SP _ _ _ (HSS.out.below hR) (HUS2.out.below hP) HSL.out.1 HSL.out.2).mono ?_
    rintro e Z2 ⟨rfl, hB⟩
    replace hX := hX.trans (hB.mono hX.size)
    replace hR := hR.trans (hB.mono hR.size)
    replace hP := hP.trans (hB.mono hP.size)
    clear hB
    go_wp2_with fail
    refine (kL _).mono ?_
    rintro e Z3 ⟨rfl, hB⟩
    obtain rfl : Z3 = Z2 := hB
    go_wp2_with fail
    refine (kI _).mono ?_
    rintro e Z4 ⟨rfl, hv⟩
    obtain rfl : Z3 = Z4 := hv.symm
    have hBo := hBw _ hX
    go_wp2_with (go_at_call 10; refine (awake9_ok _ (hgk.below hBo)).mono ?_; rintro e w9 ⟨rfl, hQ9⟩)
    go_ret
    exact ⟨rfl, hBo.trans (hQ9.mono hBo.size)⟩
  · have hlw : (if 8 < js.length then (22 : Int) else 0) = 0 := if_neg (by omega)
    have kWh := fun V => lawWhenJ_ok false 22 V
    simp only [Bool.false_eq_true, if_false] at kWh
    by_cases hz : n = 0
    case neg =>
      have kS := fun V (h : Below w1.heap.size w1 V) => shStsA_ok js _ (.slice Ao o.length co) n V (ksl V h) HJS.out HX.out hz
      have kB := fun V (h : Below w1.heap.size w1 V) => bestErr_ok js _ n n V (ksl V h) HJS.out HX.out (by unfold or3; simp [hz]) hz
      have kN := fun V (h : Below w1.heap.size w1 V) => shBndA_ok js _ n V (ksl V h) HJS.out HX.out hz
      have kC := fun V (h : Below w1.heap.size w1 V) => refJobN_ok js _ n V (ksu V h) HJS.out HX.out
      have kCJ := fun V (h : Below w1.heap.size w1 V) => shJobN_ok js _ n V (ksl V h) HJS.out HX.out
      have kI := fun V => lawIntJ_ok 0 n 0 (fun _ => rfl) (fun _ => rfl) V
      have kL := fun V => lawListE_ok n hz V
      have hzb : (n == 0) = false := by simpa using hz
      have hor : or3 n 0 0 = n := by unfold or3; simp [hz]
      have HOR := Lib.hid hor
      clear hz hor
      go_wp2_with fail
      refine (kS _ hX).mono ?_
      rintro e V3 ⟨rfl, hB⟩
      replace hX := hX.trans (hB.mono hX.size)
      clear kS
      clear hB
      go_wp2_with fail
      refine (kB _ hX).mono ?_
      rintro e V4 ⟨rfl, hB⟩
      replace hX := hX.trans (hB.mono hX.size)
      clear kB
      clear hB
      go_wp2_with fail
      refine (kN _ hX).mono ?_
      rintro e V5 ⟨rfl, hB⟩
      replace hX := hX.trans (hB.mono hX.size)
      clear kN
      clear hB
      go_wp2_with fail
      refine (kC _ hX).mono ?_
      rintro e V6 ⟨rfl, hB⟩
      replace hX := hX.trans (hB.mono hX.size)
      clear hB
      have hD := hX
      have HXA := Lib.hid (hX.alloc hX.size (.cells #[.int .i64 n, .int .i64 0] 3))
      have ho2 := fun blk W => lawFirst2J n 0 blk 2 W
      rw [show or3 n 0 0 = n from HOR.out] at ho2
      obtain ⟨V7, hV7⟩ : ∃ V7, V7 = V6.alloc (.cells #[.int .i64 n, .int .i64 0] 3) := ⟨_, rfl⟩
      have HV7 := Lib.hid hV7
      rw [← hV7] at HXA
      clear hV7
      go_wp2_with (first
        | (go_at_call 16; refine (kWh _).mono ?_; rintro e v5 ⟨rfl, hv5⟩; obtain rfl : V6 = v5 := hv5.symm)
        | (go_at_call 15; refine (ho2 _ _ ?_ ?_).mono ?_; (go_simp); (go_simp); rintro e v6 ⟨rfl, hv6⟩; subst hv6; rw [← HV7.out]; clear ho2 kWh hD; replace hX := HXA.out))
      go_wp2_with fail
      refine (kCJ _ hX).mono ?_
      rintro e Z1 ⟨rfl, hB⟩
      replace hX := hX.trans (hB.mono hX.size)
      clear hB kCJ
      go_wp2_with fail
      refine ((refSameLists_ok [] _ _ _ (.inl ⟨rfl, rfl⟩) (.inl ⟨rfl, rfl⟩) (by simp) (by simp))).mono ?_
      rintro e Z2 ⟨rfl, hB⟩
      replace hX := hX.trans (hB.mono hX.size)
      clear hB
      go_wp2_with fail
      refine (kL _).mono ?_
      rintro e Z3 ⟨rfl, hB⟩
      obtain rfl : Z3 = Z2 := hB
      go_wp2_with fail
      refine (kI _).mono ?_
      rintro e Z4 ⟨rfl, hv⟩
      obtain rfl : Z3 = Z4 := hv.symm
      have hBo := hBw _ hX
      go_wp2_with (go_at_call 10; refine (awake9_ok _ (hgk.below hBo)).mono ?_; rintro e w9 ⟨rfl, hQ9⟩)
      go_ret
      exact ⟨rfl, hBo.trans (hQ9.mono hBo.size)⟩
    case pos =>
    subst hz
    have ok := HX.out.ok
    have hm8 : 0 < stN js := by
      obtain ⟨j0, hj0⟩ : ∃ j, js[0]? = some j := ⟨_, List.getElem?_eq_getElem ok.pos⟩
      have hjo0 := ok.ok _ (List.mem_of_getElem? hj0)
      have h1 := hjo0.d
      omega
    have HM8 := Lib.hid hm8
    clear hm8 ok
    have kC := fun V (h : Below w1.heap.size w1 V) => refJobN_ok js _ 0 V (ksu V h) HJS.out HX.out
    have kCJ := fun V (h : Below w1.heap.size w1 V) => shJobN_ok js _ 0 V (ksl V h) HJS.out HX.out
    have kN := fun V (h : Below w1.heap.size w1 V) => shBound_ok js _ V (ksc V h) HJS.out HX.out
    have kRN := fun V (h : Below w1.heap.size w1 V) => refBound2_ok js (stN js) _ V (ksu V h) HX.out.ok rfl
    have kO := fun V (h : Below w1.heap.size w1 V) => refCheckOrder_ok o js _ _ V (ksu V h) (HKSO.out V h) (by have := HOL.out; omega)
    obtain ⟨o1, b1, ho1, hb1, hex, hob, -⟩ := best_pick (m := stN js) HX.out.ok.ok
    have kB := fun V (h : Below w1.heap.size w1 V) => best_ok js (stN js) _ V (ksl V h) HX.out.ok (by omega) (by
      refine ⟨HM8.out, ?_⟩
      obtain ⟨j0, hj0⟩ : ∃ j, js[0]? = some j := ⟨_, List.getElem?_eq_getElem HX.out.ok.pos⟩
      exact (HX.out.ok.ok _ (List.mem_of_getElem? hj0)).few)
    have kRB := fun V (h : Below w1.heap.size w1 V) => refBest2_ok js (stN js) _ V (ksu V h) HX.out.ok rfl HM8.out (by omega) o1 ho1
    rw [← hb1] at kRB
    have hb3 : bestP (stN js) js = some (b1, endP js (stN js) b1) := hex
    have hbl : (ints b1).length ≤ 1000 := by rw [ints_len, hob.len]; omega
    have HB3 := Lib.hid hb3
    have HBL := Lib.hid hbl
    clear ho1 hb1 hex hob hb3 hbl
    obtain ⟨bd, hbd⟩ : ∃ bd, bd = bndK js (stN js) := ⟨_, rfl⟩
    rw [← hbd] at kN kRN
    clear hbd
    have kI := fun V => lawIntJ_ok bd 0 bd (fun _ => rfl) (fun h => absurd rfl h) V
    obtain ⟨eo, heo⟩ := ordX_ex o js.length
    have HEO := Lib.hid heo
    clear heo
    by_cases hz : eo = 0
    case neg =>
      have kS := fun V (h : Below w1.heap.size w1 V) => shStsB_ok js o _ _ eo V (ksl V h) HJS.out HX.out (HKSO.out V h) (by have := HOL.out; omega) HEO.out hz
      have hzb : (eo == 0) = false := by simpa using hz
      clear hz
      go_wp2_with fail
      refine (kS _ hX).mono ?_
      rintro e V3 ⟨rfl, hB⟩
      replace hX := hX.trans (hB.mono hX.size)
      clear kS
      clear hB
      go_wp2_with fail
      refine (kB _ hX).mono ?_
      rintro e V4 ⟨⟨ub, rfl, hub⟩, hB⟩
      replace hX := hX.trans (hB.mono hX.size)
      have HV4 := Lib.hid (Below.refl V4.heap.size V4)
      unfold BestR at hub
      rw [HB3.out] at hub
      have hus := hub.1.sl
      obtain ⟨Ab, cb, hubf⟩ := hus.form
      subst hubf
      have HUS := Lib.hid hus
      have hY := Below.refl V4.heap.size V4
      clear hB kB hub hus
      go_wp2_with fail
      refine (kN _ hX).mono ?_
      rintro e V5 ⟨rfl, hB⟩
      replace hX := hX.trans (hB.mono hX.size)
      replace hY := hY.trans (hB.mono hY.size)
      clear kN
      clear hB
      go_wp2_with fail
      refine (kC _ hX).mono ?_
      rintro e V6 ⟨rfl, hB⟩
      replace hX := hX.trans (hB.mono hX.size)
      replace hY := hY.trans (hB.mono hY.size)
      clear hB
      have hD := hX
      have HXA := Lib.hid (hX.alloc hX.size (.cells #[.int .i64 0, .int .i64 0] 3))
      have ho2 := fun blk W => lawFirst2J 0 0 blk 2 W
      rw [show or3 0 0 0 = 0 from rfl] at ho2
      obtain ⟨V7, hV7⟩ : ∃ V7, V7 = V6.alloc (.cells #[.int .i64 0, .int .i64 0] 3) := ⟨_, rfl⟩
      have HV7 := Lib.hid hV7
      have HYA := Lib.hid (hY.alloc hY.size (.cells #[.int .i64 0, .int .i64 0] 3))
      rw [← hV7] at HXA HYA
      clear hV7
      go_wp2_with (first
        | (go_at_call 16; refine (kWh _).mono ?_; rintro e v5 ⟨rfl, hv5⟩; obtain rfl : V6 = v5 := hv5.symm)
        | (go_at_call 15; refine (ho2 _ _ ?_ ?_).mono ?_; (go_simp); (go_simp); rintro e v6 ⟨rfl, hv6⟩; subst hv6; rw [← HV7.out]; clear ho2 kWh hD; replace hX := HXA.out; replace hY := HYA.out))
      go_wp2_with fail
      refine (kO _ hX).mono ?_
      rintro e VO ⟨⟨x, rfl, hxo⟩, hB⟩
      obtain rfl := HEO.out.same hxo
      replace hX := hX.trans (hB.mono hX.size)
      replace hY := hY.trans (hB.mono hY.size)
      clear hB kO hxo
      go_wp2_with fail
      refine (kRN _ hX).mono ?_
      rintro e VN ⟨rfl, hB⟩
      replace hX := hX.trans (hB.mono hX.size)
      replace hY := hY.trans (hB.mono hY.size)
      clear kRN
      clear hB
      go_wp2_with fail
      refine (kRB _ hX).mono ?_
      rintro e VB ⟨⟨ur, rfl, hur⟩, hB⟩
      replace hX := hX.trans (hB.mono hX.size)
      replace hY := hY.trans (hB.mono hY.size)
      obtain ⟨Ar, cr, hurf⟩ := hur.form
      subst hurf
      have HUR := Lib.hid hur
      have hQ := Below.refl VB.heap.size VB
      clear hur
      clear hB kRB
      go_wp2_with fail
      refine (kCJ _ hX).mono ?_
      rintro e Z1 ⟨rfl, hB⟩
      replace hX := hX.trans (hB.mono hX.size)
      replace hY := hY.trans (hB.mono hY.size)
      replace hQ := hQ.trans (hB.mono hQ.size)
      clear hB kCJ
      go_wp2_with fail
      refine ((refSameLists_ok [] _ _ _ (.inl ⟨rfl, rfl⟩) (.inl ⟨rfl, rfl⟩) (by simp) (by simp))).mono ?_
      rintro e Z2 ⟨rfl, hB⟩
      replace hX := hX.trans (hB.mono hX.size)
      replace hY := hY.trans (hB.mono hY.size)
      replace hQ := hQ.trans (hB.mono hQ.size)
      clear hB
      go_wp2_with fail
      refine (lawList0_ok _ _ _ _ (HUS.out.below hY) (HUR.out.below hQ) HBL.out).mono ?_
      rintro e Z3 ⟨rfl, hB⟩
      replace hX := hX.trans (hB.mono hX.size)
      replace hY := hY.trans (hB.mono hY.size)
      replace hQ := hQ.trans (hB.mono hQ.size)
      clear hB
      go_wp2_with fail
      refine (kI _).mono ?_
      rintro e Z4 ⟨rfl, hv⟩
      obtain rfl : Z3 = Z4 := hv.symm
      have hBo := hBw _ hX
      go_wp2_with (go_at_call 10; refine (awake9_ok _ (hgk.below hBo)).mono ?_; rintro e w9 ⟨rfl, hQ9⟩)
      go_ret
      exact ⟨rfl, hBo.trans (hQ9.mono hBo.size)⟩
    case pos =>
    subst hz
    obtain ⟨p, hop, hp⟩ := HEO.out.ok
    subst hop
    have kS := fun V (h : Below w1.heap.size w1 V) => shStsC_ok js p _ _ V (ksl V h) HJS.out HX.out (HKSO.out V h) hp
    have kRS := fun V (h : Below w1.heap.size w1 V) => refSts_ok js p (stN js) _ _ V (ksu V h) HX.out.ok rfl (HKSO.out V h) hp
    have hsl : (schP js (stN js) p).length ≤ 1000 := by
      have h1 : (schP js (stN js) p).length = js.length := schK_len ..
      have := HX.out.ok.few
      omega
    have hsx : ∀ x ∈ schP js (stN js) p, x.length ≤ 1000 := fun x hx => by
      have h1 := (sch_num HX.out.ok.ok HX.out.ok.few hp x hx).1
      obtain ⟨j0, hj0⟩ : ∃ j, js[0]? = some j := ⟨_, List.getElem?_eq_getElem HX.out.ok.pos⟩
      have := (HX.out.ok.ok _ (List.mem_of_getElem? hj0)).few
      omega
    have HSL := Lib.hid (And.intro hsl hsx)
    have hSl2 : (schP js (stN js) p).length = js.length := schK_len ..
    obtain ⟨SP, hSP⟩ : ∃ SP, SP = schP js (stN js) p := ⟨_, rfl⟩
    rw [← hSP] at kS kRS HSL hSl2
    have HSPL := Lib.hid hSl2
    clear hSP hsl hsx hp hSl2
    go_wp2_with fail
    refine (kS _ hX).mono ?_
    rintro e V3 ⟨⟨gS, rfl, -, hSr⟩, hB⟩
    replace hX := hX.trans (hB.mono hX.size)
    have hSs := SchRow.sl (cap := js.length) hSr
    rw [HSPL.out] at hSs
    have HSS := Lib.hid hSs
    have hR := Below.refl V3.heap.size V3
    clear hB kS hSr hSs
    go_wp2_with fail
    refine (kB _ hX).mono ?_
    rintro e V4 ⟨⟨ub, rfl, hub⟩, hB⟩
    replace hX := hX.trans (hB.mono hX.size)
    replace hR := hR.trans (hB.mono hR.size)
    have HV4 := Lib.hid (Below.refl V4.heap.size V4)
    unfold BestR at hub
    rw [HB3.out] at hub
    have hus := hub.1.sl
    obtain ⟨Ab, cb, hubf⟩ := hus.form
    subst hubf
    have HUS := Lib.hid hus
    have hY := Below.refl V4.heap.size V4
    clear hB kB hub hus
    go_wp2_with fail
    refine (kN _ hX).mono ?_
    rintro e V5 ⟨rfl, hB⟩
    replace hX := hX.trans (hB.mono hX.size)
    replace hR := hR.trans (hB.mono hR.size)
    replace hY := hY.trans (hB.mono hY.size)
    clear kN
    clear hB
    go_wp2_with fail
    refine (kC _ hX).mono ?_
    rintro e V6 ⟨rfl, hB⟩
    replace hX := hX.trans (hB.mono hX.size)
    replace hR := hR.trans (hB.mono hR.size)
    replace hY := hY.trans (hB.mono hY.size)
    clear hB
    have hD := hX
    have HRA := Lib.hid (hR.alloc hR.size (.cells #[.int .i64 0, .int .i64 0] 3))
    have HXA := Lib.hid (hX.alloc hX.size (.cells #[.int .i64 0, .int .i64 0] 3))
    have ho2 := fun blk W => lawFirst2J 0 0 blk 2 W
    rw [show or3 0 0 0 = 0 from rfl] at ho2
    obtain ⟨V7, hV7⟩ : ∃ V7, V7 = V6.alloc (.cells #[.int .i64 0, .int .i64 0] 3) := ⟨_, rfl⟩
    have HV7 := Lib.hid hV7
    have HYA := Lib.hid (hY.alloc hY.size (.cells #[.int .i64 0, .int .i64 0] 3))
    rw [← hV7] at HRA HXA HYA
    clear hV7
    go_wp2_with (first
      | (go_at_call 16; refine (kWh _).mono ?_; rintro e v5 ⟨rfl, hv5⟩; obtain rfl : V6 = v5 := hv5.symm)
      | (go_at_call 15; refine (ho2 _ _ ?_ ?_).mono ?_; (go_simp); (go_simp); rintro e v6 ⟨rfl, hv6⟩; subst hv6; rw [← HV7.out]; clear ho2 kWh hD; replace hX := HXA.out; replace hR := HRA.out; replace hY := HYA.out))
    go_wp2_with fail
    refine (kO _ hX).mono ?_
    rintro e VO ⟨⟨x, rfl, hxo⟩, hB⟩
    obtain rfl := HEO.out.same hxo
    replace hX := hX.trans (hB.mono hX.size)
    replace hR := hR.trans (hB.mono hR.size)
    replace hY := hY.trans (hB.mono hY.size)
    clear hB kO hxo
    go_wp2_with fail
    refine (kRN _ hX).mono ?_
    rintro e VN ⟨rfl, hB⟩
    replace hX := hX.trans (hB.mono hX.size)
    replace hR := hR.trans (hB.mono hR.size)
    replace hY := hY.trans (hB.mono hY.size)
    clear kRN
    clear hB
    go_wp2_with fail
    refine (kRS _ hX).mono ?_
    rintro e VS ⟨⟨uS, rfl, huS⟩, hB⟩
    replace hX := hX.trans (hB.mono hX.size)
    replace hR := hR.trans (hB.mono hR.size)
    replace hY := hY.trans (hB.mono hY.size)
    obtain ⟨AS, cS, huf⟩ := huS.form
    subst huf
    have HUS2 := Lib.hid huS
    have hP := Below.refl VS.heap.size VS
    clear hB kRS huS
    go_wp2_with fail
    refine (kRB _ hX).mono ?_
    rintro e VB ⟨⟨ur, rfl, hur⟩, hB⟩
    replace hX := hX.trans (hB.mono hX.size)
    replace hR := hR.trans (hB.mono hR.size)
    replace hP := hP.trans (hB.mono hP.size)
    replace hY := hY.trans (hB.mono hY.size)
    obtain ⟨Ar, cr, hurf⟩ := hur.form
    subst hurf
    have HUR := Lib.hid hur
    have hQ := Below.refl VB.heap.size VB
    clear hur
    clear hB kRB
    go_wp2_with fail
    refine (kCJ _ hX).mono ?_
    rintro e Z1 ⟨rfl, hB⟩
    replace hX := hX.trans (hB.mono hX.size)
    replace hR := hR.trans (hB.mono hR.size)
    replace hP := hP.trans (hB.mono hP.size)
    replace hY := hY.trans (hB.mono hY.size)
    replace hQ := hQ.trans (hB.mono hQ.size)
    clear hB kCJ
    go_wp2_with fail
    refine (refSameLists_ok SP _ _ _ (HSS.out.below hR) (HUS2.out.below hP) HSL.out.1 HSL.out.2).mono ?_
    rintro e Z2 ⟨rfl, hB⟩
    replace hX := hX.trans (hB.mono hX.size)
    replace hR := hR.trans (hB.mono hR.size)
    replace hP := hP.trans (hB.mono hP.size)
    replace hY := hY.trans (hB.mono hY.size)
    replace hQ := hQ.trans (hB.mono hQ.size)
    clear hB
    go_wp2_with fail
    refine (lawList0_ok _ _ _ _ (HUS.out.below hY) (HUR.out.below hQ) HBL.out).mono ?_
    rintro e Z3 ⟨rfl, hB⟩
    replace hX := hX.trans (hB.mono hX.size)
    replace hR := hR.trans (hB.mono hR.size)
    replace hP := hP.trans (hB.mono hP.size)
    replace hY := hY.trans (hB.mono hY.size)
    replace hQ := hQ.trans (hB.mono hQ.size)
    clear hB
    go_wp2_with fail
    refine (kI _).mono ?_
    rintro e Z4 ⟨rfl, hv⟩
    obtain rfl : Z3 = Z4 := hv.symm
    have hBo := hBw _ hX
    go_wp2_with (go_at_call 10; refine (awake9_ok _ (hgk.below hBo)).mono ?_; rintro e w9 ⟨rfl, hQ9⟩)
    go_ret
    exact ⟨rfl, hBo.trans (hQ9.mono hBo.size)⟩
end Go.Proofs
