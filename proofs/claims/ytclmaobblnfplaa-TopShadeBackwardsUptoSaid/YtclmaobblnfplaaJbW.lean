import Derived.Test.YtclmaobblnfplaaJbM
import Derived.Test.YtclmaobblnfplaaJbK
/- Jobs: CheckStarts of shop. -/
namespace Go.Proofs
open Go.RowKit Go.MapKept
set_option maxHeartbeats 16000000
set_option maxRecDepth 1000000
theorem numE_0 {S : List (List Int)} {n m : Nat} (h : numE S n m = 0) : S.length = n ∧ ∀ x ∈ S, x.length = m ∧ ∀ y ∈ x, 0 ≤ y ∧ y ≤ 999999999 := by
  unfold numE at h
  split at h
  · cases h
  · rename_i h1
    split at h
    · cases h
    · rename_i h2
      refine ⟨Classical.not_not.1 h1, fun x hx => ⟨Classical.byContradiction fun h3 => h2 ⟨x, hx, h3⟩, ?_⟩⟩
      exact allE_0 (orL_eq0.1 h _ (List.mem_map.2 ⟨x, hx, rfl⟩))
def EarlyAny (js : List JobT) (S : List (List Int)) : Prop := ∃ (k : Nat) (j : JobT) (x : List Int), js[k]? = some j ∧ S[k]? = some x ∧ Early j.2.1 j.2.2 x
def HitAny (js : List JobT) (S : List (List Int)) (m : Nat) : Prop := ∃ s : Nat, s < m ∧ PairHit (useK js S s)
def endL (U : List UseT) (k : Nat) : Int := (U.take k).foldl (fun e u => max e u.2) 0
theorem endL_succ {U : List UseT} {k : Nat} {u : UseT} (h : U[k]? = some u) : endL U (k + 1) = max (endL U k) u.2 := by
  unfold endL
  rw [List.take_add_one, h]
  simp
def StartsX (js : List JobT) (S : List (List Int)) (c e : Int) : Prop :=
  (numE S js.length (stN js) ≠ 0 ∧ c = 0 ∧ e = numE S js.length (stN js)) ∨ (numE S js.length (stN js) = 0 ∧ ((EarlyAny js S ∧ c = 0 ∧ e = 11) ∨ (¬ EarlyAny js S ∧ ((HitAny js S (stN js) ∧ c = 0 ∧ e = 16) ∨ (¬ HitAny js S (stN js) ∧ c = endL (useK js S (stN js - 1)) js.length ∧ e = 0)))))
theorem StartsX.same {js : List JobT} {S : List (List Int)} {c e c' e' : Int} (h : StartsX js S c e) (h' : StartsX js S c' e') : c = c' ∧ e = e' := by
  rcases h with ⟨h1, rfl, rfl⟩ | ⟨h1, ⟨h2, rfl, rfl⟩ | ⟨h2, ⟨h3, rfl, rfl⟩ | ⟨h3, rfl, rfl⟩⟩⟩ <;> rcases h' with ⟨g1, rfl, rfl⟩ | ⟨g1, ⟨g2, rfl, rfl⟩ | ⟨g2, ⟨g3, rfl, rfl⟩ | ⟨g3, rfl, rfl⟩⟩⟩ <;> first | exact ⟨rfl, rfl⟩ | contradiction
theorem shStarts_ok (js : List JobT) (S : List (List Int)) (v vs : Value) (w : World) (hl : SlJ w v js) (hS : SlLL w vs S) (hs : ∀ j ∈ js, j.2.1.length ≤ 1000 ∧ j.2.2.length ≤ 1000) (hx : JobX js 0) (hn : S.length ≤ 1000) (hns : ∀ x ∈ S, x.length ≤ 1000) :
    Calls Try.prog 18 #[v, vs] w fun e w' => (∃ c n : Int, e = .returned (.tuple #[.int .i64 c, .int .i64 n]) ∧ StartsX js S c n) ∧ Below w.heap.size w w' := by
  have k1 := shJobN_ok js v 0 w hl hs hx
  have ok := hx.ok
  have kN := fun W (h : Below w.heap.size w W) => shNumbers_ok js S v vs W (hl.below h) ok.pos (hS.below h) hn hns
  obtain ⟨Av, cv, rfl⟩ := hS.form
  by_cases hz : numE S js.length (stN js) = 0
  case neg =>
    have HX : RowKit.Hid (StartsX js S 0 (numE S js.length (stN js))) := Lib.hid (.inl ⟨hz, rfl, rfl⟩)
    generalize StartsX js S = SX at HX ⊢
    generalize numE S js.length (stN js) = er at kN HX hz
    have hre : (er != 0) = true := by simpa using hz
    obtain ⟨A0, c0, rfl⟩ := hl.form
    clear hz hl hS hx ok hs hns
    go_enter Try.func18, Try.ntmps18
    go_wp2_with (first
      | (go_at_call 20; refine k1.mono ?_; rintro e w1 ⟨rfl, hB⟩)
      | (go_at_call 41; refine (kN _ hB).mono ?_; rintro e w2 ⟨rfl, hB2⟩))
    go_ret2
    exact ⟨⟨_, _, rfl, HX.out⟩, hB.trans (hB2.mono hB.size)⟩
  case pos =>
  obtain ⟨hSn, hSx⟩ := numE_0 hz
  rw [hSn] at hS kN ⊢
  have H11 : RowKit.Hid (EarlyAny js S → StartsX js S 0 11) := Lib.hid fun h => .inr ⟨hz, .inl ⟨h, rfl, rfl⟩⟩
  have H16 : RowKit.Hid (¬ EarlyAny js S → HitAny js S (stN js) → StartsX js S 0 16) := Lib.hid fun h h2 => .inr ⟨hz, .inr ⟨h, .inl ⟨h2, rfl, rfl⟩⟩⟩
  have H0 : RowKit.Hid (¬ EarlyAny js S → ¬ HitAny js S (stN js) → StartsX js S (endL (useK js S (stN js - 1)) js.length) 0) := Lib.hid fun h h2 => .inr ⟨hz, .inr ⟨h, .inr ⟨h2, rfl, rfl⟩⟩⟩
  simp only [hz] at kN
  generalize StartsX js S = SX at H11 H16 H0 ⊢
  have hpos := ok.pos
  have hfew := ok.few
  obtain ⟨j0, hj0⟩ : ∃ j, js[0]? = some j := ⟨_, List.getElem?_eq_getElem hpos⟩
  have hjo0 := ok.ok _ (List.mem_of_getElem? hj0)
  have hm8 : 0 < stN js ∧ stN js ≤ 8 := by have h1 := hjo0.d; have h2 := hjo0.few; omega
  have HL := Lib.hid hl
  obtain ⟨bJ, oJ, cap, rfl, hbJ, hat⟩ := hl.addr hpos
  obtain ⟨vt0, vd0, -, q1, -, qt, -⟩ := hat 0 _ hj0
  rw [Nat.zero_mul, Nat.add_zero] at q1
  have hm0 : j0.2.1.length = stN js := by unfold stN; rw [hj0]
  have kSt := fun W (h : Below w.heap.size w W) => stations_ok vt0 j0.2.1 bJ oJ js.length cap W ((h.cell (p := ⟨bJ, oJ + 1, none⟩) hbJ).trans q1) (qt.below h) hpos
  rw [hm0] at kSt
  have kU := fun (s : Nat) W (h : Below w.heap.size w W) (h2 : s < stN js) => shUses_ok js S (stN js) s _ _ W (hl.below h) (by have := hS.below h; exact this) ok hSn hSx h2
  have HKU := Lib.hid kU
  have HOK := Lib.hid ok
  have HAT := Lib.hid hat
  have HSX := Lib.hid hSx
  have HSN := Lib.hid hSn
  have HST := Lib.hid kSt
  have HSS := Lib.hid hS
  have kSt0 := kSt
  clear hl hs hx hj0 hjo0 hm0 q1 qt hat hSx hz ok kU hns kSt kSt0 hS
  go_enter Try.func18, Try.ntmps18
  go_wp2_with (first
    | (go_at_call 20; refine k1.mono ?_; rintro e w1 ⟨rfl, hB⟩)
    | (go_at_call 41; refine (kN _ hB).mono ?_; rintro e w2 ⟨rfl, hB2⟩))
  have hX := hB.trans (hB2.mono hB.size)
  clear hB hB2 k1 kN
  go_loopw [27] (fun i wr => ∃ k : Nat, k ≤ js.length ∧ i = .int .i64 k ∧ (∀ (q : Nat) (j : JobT) (x : List Int), q < k → js[q]? = some j → S[q]? = some x → ¬ Early j.2.1 j.2.2 x) ∧ Below w.heap.size w wr) (fun i _ => js.length - (intOf i).toNat)
  case atStart => exact ⟨0, Nat.zero_le _, rfl, fun p j x h => absurd h (Nat.not_lt_zero p), hX⟩
  case round =>
    clear hX
    obtain ⟨k, hk, rfl, hp, hX⟩ := hrel
    rename World => w3
    have HP := Lib.hid hp
    clear hp
    rcases Nat.lt_or_eq_of_le hk with hkn | rfl
    · obtain ⟨⟨nm, tl, dl⟩, hc⟩ : ∃ j, js[k]? = some j := ⟨_, List.getElem?_eq_getElem hkn⟩
      obtain ⟨vt, vd, j0', j1', j2', ht, hd⟩ := HAT.out k _ hc
      have hjo := HOK.out.ok _ (List.mem_of_getElem? hc)
      dsimp only at j0' j1' j2' ht hd
      obtain ⟨At, ct, rfl⟩ := ht.form
      obtain ⟨Ad, cd, rfl⟩ := hd.form
      have r0 := (hX.cell (p := ⟨bJ, oJ + k * 3, none⟩) hbJ).trans j0'
      have r1 := (hX.cell (p := ⟨bJ, oJ + k * 3 + 1, none⟩) hbJ).trans j1'
      have r2 := (hX.cell (p := ⟨bJ, oJ + k * 3 + 2, none⟩) hbJ).trans j2'
      have hS3 := HSS.out.below hX
      obtain ⟨bS, oS, x, Ax, cx, rfl, hbS, hxk, rS, hxs⟩ := hS3.cells (k := k) (by have := HSN.out; omega)
      have hxo := HSX.out x (List.mem_of_getElem? hxk)
      have hi0 : (0 : Int) ≤ k := by omega
      have hi1 : (k : Int) < js.length := by omega
      have HK := Lib.hid (show k + 1 ≤ js.length from hkn)
      have HM := Lib.hid (show js.length - (k + 1) < js.length - k by omega)
      obtain ⟨wk1, wk2⟩ := wrapsV (show k < 1048576 by omega)
      have HC := Lib.hid hc
      have HXK := Lib.hid hxk
      obtain ⟨W0, hW⟩ : ∃ W0, W0 = w3.alloc (.cells #[.string nm, .slice At tl.length ct, .slice Ad dl.length cd] 31) := ⟨_, rfl⟩
      have hB0 : Below w3.heap.size w3 W0 := by subst hW; exact (Below.refl _ _).alloc (Nat.le_refl _) _
      have rj : RowK W0 31 w3.heap.size [.string nm, .slice At tl.length ct, .slice Ad dl.length cd] := by subst hW; exact heap_alloc_new w3 _
      have kk : ∀ V, Below W0.heap.size W0 V → (V.cell? ⟨w3.heap.size, 0, none⟩ = some (.string nm) ∧ V.cell? ⟨w3.heap.size, 1, none⟩ = some (.slice At tl.length ct) ∧ V.cell? ⟨w3.heap.size, 2, none⟩ = some (.slice Ad dl.length cd)) ∧ V.cell? ⟨bS, oS + k, none⟩ = some (.slice Ax x.length cx) := fun V h => ⟨⟨(rj.below h).cell (by rfl), (rj.below h).cell (by rfl), (rj.below h).cell (by rfl)⟩, ((hB0.trans (h.mono hB0.size)).cell (p := ⟨bS, oS + k, none⟩) hbS).trans rS⟩
      have hD := (Below.refl W0.heap.size W0).drew
      have hky := kk _ hD
      have hX0 := hX.trans ((hB0.trans (hD.mono hB0.size)).mono hX.size)
      have kE := shEarly_ok nm _ _ _ tl dl x (stN js) W0.drew (ht.below hX0) (hd.below hX0) ((hxs.below hB0).below hD) hjo hxo.1 hxo.2
      unfold jobV at kE
      have HX0 := Lib.hid hX0
      have HKK := Lib.hid kk
      have HHD := Lib.hid hD
      obtain ⟨EP, hEP⟩ : ∃ EP, EP = Early tl dl x := ⟨_, rfl⟩
      rw [← hEP] at kE
      have HEP := Lib.hid hEP
      clear hc hxk hX rj kk hX0 j0' j1' j2' ht hd hxs hxo hjo hS3 hEP
      go_wp2_with fail
      rw [← hW]
      clear hW r0 r1 r2
      go_region_held3 (fun V => (V.cell? ⟨w3.heap.size, 0, none⟩ = some (.string nm) ∧ V.cell? ⟨w3.heap.size, 1, none⟩ = some (.slice At tl.length ct) ∧ V.cell? ⟨w3.heap.size, 2, none⟩ = some (.slice Ad dl.length cd)) ∧ V.cell? ⟨bS, oS + k, none⟩ = some (.slice Ax x.length cx)) (first | exact hky | exact hky2 | go_keep)
        (first
          | (go_at_call 42; refine kE.mono ?_; rintro e v1 ⟨⟨r, rfl, hr⟩, hQ1⟩; have HR := Lib.hid hr; clear hr; have hky2 := HKK.out _ (HHD.out.trans (hQ1.mono HHD.out.size)); have hX1 := HX0.out.trans (hQ1.mono HX0.out.size)))
      rename_i hHeld
      clear hHeld hky hky2 kE rS
      cases r with
      | true =>
        have hE := H11.out ⟨k, _, x, HC.out, HXK.out, by have := HR.out.1 rfl; rw [HEP.out] at this; exact this⟩
        have HEE := Lib.hid hE
        clear hE
        go_wp2_with fail
        go_ret2
        exact ⟨⟨_, _, rfl, HEE.out⟩, hX1⟩
      | false =>
        have HN2 : RowKit.Hid (∀ (q : Nat) (j : JobT) (x : List Int), q < k + 1 → js[q]? = some j → S[q]? = some x → ¬ Early j.2.1 j.2.2 x) := Lib.hid fun q j z h1 h2 h4 => by
          rcases Nat.lt_or_eq_of_le (Nat.le_of_lt_succ h1) with h3 | rfl
          · exact HP.out q j z h3 h2 h4
          · obtain rfl := Option.some.inj (HC.out.symm.trans h2)
            obtain rfl := Option.some.inj (HXK.out.symm.trans h4)
            exact fun h => by
              have := HR.out.2 (by rw [HEP.out]; exact h)
              cases this
        go_wp2_with fail
        go_roundw
        case rel => exact ⟨k + 1, HK.out, by simp, HN2.out, hX1⟩
        case measure => exact HM.out
    · have hNE : ¬ EarlyAny js S := by
        rintro ⟨q, j, x, h1, h2, h3⟩
        exact HP.out q j x (List.getElem?_eq_some_iff.1 h1).1 h1 h2 h3
      have HNE := Lib.hid hNE
      have kS3 := HST.out _ hX
      clear hNE HP H11
      go_wp2_with (go_at_call 27; refine kS3.mono ?_; rintro e v5 ⟨rfl, hv5⟩; obtain rfl := hv5)
      clear kS3
      go_loopw [41] (fun i wr => ∃ s : Nat, s ≤ stN js ∧ i = .int .i64 s ∧ (∀ q : Nat, q < s → ¬ PairHit (useK js S q)) ∧ Below w.heap.size w wr) (fun i _ => stN js - (intOf i).toNat)
      case atStart => exact ⟨0, Nat.zero_le _, rfl, fun p h => absurd h (Nat.not_lt_zero p), hX⟩
      case round =>
        clear hX
        obtain ⟨s, hs, rfl, hp, hX⟩ := hrel
        rename World => w4
        have HP := Lib.hid hp
        clear hp
        rcases Nat.lt_or_eq_of_le hs with hsn | rfl
        · have kU := HKU.out s w4 hX hsn
          have hul : (useK js S s).length = js.length := useK_len HSN.out
          have hi0 : (0 : Int) ≤ s := by omega
          have hi1 : (s : Int) < stN js := by omega
          have HK := Lib.hid (show s + 1 ≤ stN js from hsn)
          have HM := Lib.hid (show stN js - (s + 1) < stN js - s by omega)
          obtain ⟨wk1, wk2⟩ := wrapsV (show s < 1048576 by omega)
          have kH := fun B W (h : UAt W B (useK js S s)) => shHasHit_ok (useK js S s) B js.length W h (by omega) (by omega) (by omega)
          rw [hul] at kH
          have HIT := Lib.hid (show PairHit (useK js S s) → HitAny js S (stN js) from fun h => ⟨s, hsn, h⟩)
          generalize hUU : useK js S s = U at kU kH HIT
          have HUU := Lib.hid hUU
          clear hul hUU
          go_wp2_with (first
            | (go_at_call 44; refine kU.mono ?_; rintro e w5 ⟨⟨B, rfl, hUB⟩, hB5⟩)
            | (go_at_call 43; refine (kH _ _ hUB).mono ?_; rintro e w6 ⟨⟨r, rfl, hr⟩, hB6⟩; have HR := Lib.hid hr; clear hr; have hX6 := (hX.trans (hB5.mono hX.size)).trans (hB6.mono (hX.trans (hB5.mono hX.size)).size); cases r))
          · have HN2 : RowKit.Hid (∀ q : Nat, q < s + 1 → ¬ PairHit (useK js S q)) := Lib.hid fun q h1 => by
              rcases Nat.lt_or_eq_of_le (Nat.le_of_lt_succ h1) with h3 | rfl
              · exact HP.out q h3
              · rw [HUU.out]
                exact fun h => by have := HR.out.2 h; cases this
            go_wp2_with fail
            go_roundw
            case rel => exact ⟨s + 1, HK.out, by simp, HN2.out, hX6⟩
            case measure => exact HM.out
          · have hE := H16.out HNE.out (HIT.out (HR.out.1 (by trivial)))
            have HEE := Lib.hid hE
            clear hE
            go_wp2_with fail
            go_ret2
            exact ⟨⟨_, _, rfl, HEE.out⟩, hX6⟩
        · have hNH : ¬ HitAny js S (stN js) := by
            rintro ⟨q, h1, h2⟩
            exact HP.out q h1 h2
          have HE := Lib.hid (H0.out HNE.out hNH)
          clear hNH HP H16 H0
          have kS4 := HST.out _ hX
          have kU := HKU.out (stN js - 1) w4 hX (by omega)
          have hul : (useK js S (stN js - 1)).length = js.length := useK_len HSN.out
          have hcm : ((stN js - 1 : Nat) : Int) = (stN js : Int) - 1 := by omega
          rw [hcm] at kU
          obtain ⟨wm1, wm2⟩ : wrap64 ((stN js : Int) - 1) = (stN js : Int) - 1 ∧ IntKind.i64.wrap ((stN js : Int) - 1) = (stN js : Int) - 1 := ⟨wrap64_small (by omega), wrap_small (by omega)⟩
          generalize useK js S (stN js - 1) = U at kU hul HE
          have HUL := Lib.hid hul
          clear hul hcm
          go_wp2_with (first
            | (go_at_call 27; refine kS4.mono ?_; rintro e v5 ⟨rfl, hv5⟩; obtain rfl := hv5)
            | (go_at_call 44; refine kU.mono ?_; rintro e w5 ⟨⟨B, rfl, hUB⟩, hB5⟩))
          have hX5 := hX.trans (hB5.mono hX.size)
          clear hX hB5
          go_loopw [11, 57] (fun c i wr => ∃ q : Nat, q ≤ js.length ∧ i = .int .i64 q ∧ c = .int .i64 (endL U q) ∧ Below w5.heap.size w5 wr) (fun _ i _ => js.length - (intOf i).toNat)
          case atStart => exact ⟨0, Nat.zero_le _, rfl, rfl, Below.refl _ _⟩
          case round =>
            obtain ⟨q, hq, rfl, rfl, hY⟩ := hrel
            rename World => w6
            rcases Nat.lt_or_eq_of_le hq with hqn | rfl
            · obtain ⟨⟨a, b⟩, hc⟩ : ∃ u, U[q]? = some u := ⟨_, List.getElem?_eq_getElem (by have := HUL.out; omega)⟩
              obtain ⟨r0, r1⟩ := (hUB.below hY).2 q _ hc
              dsimp only at r0 r1
              have hmx := endL_succ hc
              dsimp only at hmx
              have hj0 : (0 : Int) ≤ q := by omega
              have hj1 : (q : Int) < js.length := by omega
              have HK := Lib.hid (show q + 1 ≤ js.length from hqn)
              have HM := Lib.hid (show js.length - (q + 1) < js.length - q by omega)
              obtain ⟨wk1, wk2⟩ := wrapsV (show q < 1048576 by omega)
              have HMX := Lib.hid hmx
              have HY2 := Lib.hid (hY.alloc hY.size (.cells #[.int .i64 a, .int .i64 b] 70))
              generalize endL U q = C at HMX ⊢
              clear hmx hc hY
              go_wp2_with fail
              all_goals (
                go_roundw
                case rel => exact ⟨q + 1, HK.out, by simp, congrArg (fun z => Value.int .i64 z) (by rw [HMX.out]; omega), HY2.out⟩
                case measure => exact HM.out)
            · have hXZ := hX5.trans (hY.mono hX5.size)
              clear hY
              go_wp2_with fail
              go_ret2
              exact ⟨⟨_, _, rfl, HE.out⟩, hXZ⟩
end Go.Proofs
