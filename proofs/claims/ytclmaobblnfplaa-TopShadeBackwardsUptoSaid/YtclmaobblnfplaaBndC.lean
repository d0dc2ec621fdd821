/- Jobs: lists of what they need; Bound of shop. -/
import Derived.Test.YtclmaobblnfplaaBndB
namespace Go.Proofs
open Go.RowKit Go.MapKept
set_option maxHeartbeats 16000000
set_option maxRecDepth 1000000
def CapJ (w : World) (v : Value) (js : List JobT) : Prop := ∀ (b o n c : Nat), v = .slice (some ⟨b, o, none⟩) n c → ∀ (k : Nat) (j : JobT), js[k]? = some j → ∃ (At Ad : Option Addr) (ct cd : Nat), w.cell? ⟨b, o + k * 3 + 1, none⟩ = some (.slice At j.2.1.length ct) ∧ w.cell? ⟨b, o + k * 3 + 2, none⟩ = some (.slice Ad j.2.2.length cd) ∧ j.2.1.length ≤ ct ∧ j.2.2.length ≤ cd
/-- Jobs whose lists have their capacity. -/
def SlJC (w : World) (v : Value) (js : List JobT) : Prop := SlJ w v js ∧ CapJ w v js
theorem SlJC.below {w w' : World} {v : Value} {js : List JobT} (h : SlJC w v js) (hb : Below w.heap.size w w') : SlJC w' v js := by
  refine ⟨h.1.below hb, fun b o n c e k j hk => ?_⟩
  obtain ⟨b2, o2, c2, e2, hlt, -⟩ := h.1.addr (Nat.lt_of_le_of_lt (Nat.zero_le _) (List.getElem?_eq_some_iff.1 hk).1)
  obtain ⟨At, Ad, ct, cd, h1, h2, h3, h4⟩ := h.2 b o n c e k j hk
  rw [e] at e2
  injection e2 with e2
  injection e2 with e2
  injection e2 with e3 e4
  subst e3
  exact ⟨At, Ad, ct, cd, (hb.cell (p := ⟨b, _, none⟩) hlt).trans h1, (hb.cell (p := ⟨b, _, none⟩) hlt).trans h2, h3, h4⟩
theorem SlJC.at_ {w : World} {js : List JobT} {b o n c : Nat} (h : SlJC w (.slice (some ⟨b, o, none⟩) n c) js) {k : Nat} {j : JobT} (hk : js[k]? = some j) : b < w.heap.size ∧ n = js.length ∧ ∃ (At Ad : Option Addr) (ct cd : Nat), w.cell? ⟨b, o + k * 3, none⟩ = some (.string j.1) ∧ w.cell? ⟨b, o + k * 3 + 1, none⟩ = some (.slice At j.2.1.length ct) ∧ w.cell? ⟨b, o + k * 3 + 2, none⟩ = some (.slice Ad j.2.2.length cd) ∧ SlI w (.slice At j.2.1.length ct) j.2.1 ∧ SlI w (.slice Ad j.2.2.length cd) j.2.2 ∧ j.2.1.length ≤ ct ∧ j.2.2.length ≤ cd := by
  obtain ⟨b2, o2, c2, e2, hlt, hat⟩ := h.1.addr (Nat.lt_of_le_of_lt (Nat.zero_le _) (List.getElem?_eq_some_iff.1 hk).1)
  injection e2 with e2 e5
  injection e2 with e2
  injection e2 with e3 e4
  subst e3 e4
  obtain ⟨At, Ad, ct, cd, h1, h2, h3, h4⟩ := h.2 b o n c rfl k j hk
  obtain ⟨vt, vd, j0, j1, j2, ht, hd⟩ := hat k j hk
  obtain rfl := Option.some.inj (h1.symm.trans j1)
  obtain rfl := Option.some.inj (h2.symm.trans j2)
  exact ⟨hlt, e5, At, Ad, ct, cd, j0, h1, h2, ht, hd, h3, h4⟩
theorem lsAll_ok (js : List JobT) (m : Nat) (v : Value) (w : World) (hl : SlJC w v js) (ok : JobsOk m js) :
    Calls Try.prog 29 #[v, .func (.func 30) #[] #[]] w fun e w' => (∃ u, e = .returned u ∧ SlI w' u (js.map fun j => allJ j)) ∧ Below w.heap.size w w' := by
  obtain ⟨bJ, oJ, cap, rfl, hbJ, -⟩ := hl.1.addr ok.pos
  have hfew := ok.few
  obtain ⟨j0, hj, hy0, hy1, hy2⟩ := info_parts (P := Try.prog) (e := 3) (z := .int .i64 0) (size := 1) (bytes := 8) (by kernel_rfl)
  have HL := Lib.hid hl
  have HOK := Lib.hid ok
  clear hl
  go_enter Try.func29, Try.ntmps29
  go_wp2_with (at_make; refine wpList_make_full _ rfl _ _ 23 rfl w.heap.size 3 j0 _ 1 Try.underlying23 hj hy0 hy1 .i64 .i64 _ _ js.length rfl rfl rfl rfl ?c1 ?c2 ?c3 ?_)
  case c1 => rw [hy2]; omega
  case c2 => unfold maxLen; omega
  case c3 => exact Nat.le_refl _
  intro w1 hown hgrow
  have hX2 : Below w.heap.size w w1 := (Below.refl _ _).grown hgrow (Nat.le_refl _) (fun k hk => by cases hk)
  have hK := RowK.made hown
  have hlen := hown.1
  clear hgrow hown
  generalize (madeCells #[Value.int .i64 0] js.length).toList = Z at hK hlen
  rw [Nat.mul_one] at hlen
  go_wp2_with fail
  go_loopw [13] (fun i wr => ∃ (k : Nat) (cs : List Value), k ≤ js.length ∧ i = .int .i64 k ∧ RowK wr 3 w.heap.size cs ∧ cs.length = js.length ∧ (∀ q j, q < k → js[q]? = some j → cs[q]? = some (.int .i64 (allJ j))) ∧ Below w.heap.size w wr) (fun i _ => js.length - (intOf i).toNat)
  case atStart => exact ⟨0, Z, Nat.zero_le _, rfl, hK, hlen, fun j c hj _ => absurd hj (Nat.not_lt_zero j), hX2⟩
  case round =>
    clear hK hlen hX2 Z
    obtain ⟨k, cs, hk, rfl, hK, hlen, hall, hX⟩ := hrel
    rename World => w3
    rcases Nat.lt_or_eq_of_le hk with hkn | rfl
    · obtain ⟨⟨nm, t, d⟩, hj2⟩ : ∃ j, js[k]? = some j := ⟨_, List.getElem?_eq_getElem hkn⟩
      obtain ⟨-, -, At, Ad, ct, cd, q0, q1, q2, ht, hd, hct, hcd⟩ := (HL.out.below hX).at_ hj2
      dsimp only at q0 q1 q2 ht hd hct hcd
      have hjo := HOK.out.ok _ (List.mem_of_getElem? hj2)
      obtain ⟨W1, hW⟩ : ∃ W1, W1 = w3.alloc (.cells #[.string nm, .slice At t.length ct, .slice Ad d.length cd] 31) := ⟨_, rfl⟩
      have hB1 : Below w3.heap.size w3 W1 := by subst hW; exact (Below.refl _ _).alloc (Nat.le_refl _) _
      have hX1 := hX.trans (hB1.mono hX.size)
      have kC := shAll_ok nm At Ad ct cd t d m W1 (ht.below hB1) (hd.below hB1) hjo
      obtain ⟨v0, hv0⟩ : ∃ v0, cs[k]? = some v0 := ⟨_, List.getElem?_eq_getElem (by omega)⟩
      have hres : ∀ (r : Int), r = allJ (nm, t, d) → ∀ (q : Nat) (j : JobT), q < k + 1 → js[q]? = some j → (cs.set k (.int .i64 r))[q]? = some (.int .i64 (allJ j)) := fun r hr q j hq hqj => by
        rcases Nat.lt_or_eq_of_le (Nat.le_of_lt_succ hq) with h1 | rfl
        · rw [List.getElem?_set_ne (by omega)]
          exact hall q j h1 hqj
        · obtain rfl := Option.some.inj (hj2.symm.trans hqj)
          rw [List.getElem?_set_self (by omega), hr]
      clear hall
      generalize allJ (nm, t, d) = r at kC hres
      have hres := hres r rfl
      have hi0 : (0 : Int) ≤ k := by omega
      have hi1 : (k : Int) < js.length := by omega
      have HK := Lib.hid (show k + 1 ≤ js.length from hkn)
      have HM := Lib.hid (show js.length - (k + 1) < js.length - k by omega)
      have HWK := Lib.hid (wrapsV (show k < 1048576 by omega))
      have HRES := Lib.hid hres
      have HKK := Lib.hid (And.intro hK hB1)
      have HLN := Lib.hid hlen
      have HX1 := Lib.hid hX1
      have HV0 := Lib.hid hv0
      unfold jobV at kC
      clear hj2 ht hd hct hcd hjo hres hK hlen hX1 hv0 hB1
      go_wp2_with fail
      rw [← hW]
      clear hW
      refine kC.mono ?_
      rintro e w4 ⟨rfl, hB4⟩
      have hK4 := (HKK.out.1.below HKK.out.2).below hB4
      have o0 := hK4.cell HV0.out
      have fz := hK4.fz
      have HR : RowKit.Hid (RowK (w4.setCell ⟨w.heap.size, k, none⟩ (.int .i64 r)) 3 w.heap.size (cs.set k (.int .i64 r)) ∧ Below w.heap.size w (w4.setCell ⟨w.heap.size, k, none⟩ (.int .i64 r))) := Lib.hid ⟨hK4.set k _, (HX1.out.trans (hB4.mono HX1.out.size)).setCell (Nat.le_refl _) _⟩
      obtain ⟨wk1, wk2⟩ := HWK.out
      clear hK4 kC q0 q1 q2
      go_wp2_with fail
      go_roundw
      case rel => exact ⟨k + 1, _, HK.out, by simp, HR.out.1, by simp [HLN.out], HRES.out, HR.out.2⟩
      case measure => exact HM.out
    · have hsl : SlI w3 (.slice (some ⟨w.heap.size, 0, none⟩) js.length js.length) (js.map fun j => allJ j) := by
        have hI : IAt w3 w.heap.size 0 (js.map fun j => allJ j) := fun i x hi => by
          rw [List.getElem?_map] at hi
          obtain ⟨j, hj, rfl⟩ := Option.map_eq_some_iff.1 hi
          rw [Nat.zero_add]
          exact hK.cell (hall i j (List.getElem?_eq_some_iff.1 hj).1 hj)
        have h := SlI.row (cap := js.length) hI hK.lt
        rw [List.length_map] at h
        exact h
      have HR := Lib.hid hsl
      clear hsl hK hall
      go_wp2_with fail
      go_ret
      exact ⟨⟨_, rfl, HR.out⟩, hX⟩
theorem lsAt_ok (js : List JobT) (m s c : Nat) (v : Value) (w : World) (hl : SlJC w v js) (ok : JobsOk m js) (hs : s < m) (hc : w.cell? ⟨c, 0, none⟩ = some (.int .i64 s)) (hcl : c < w.heap.size) :
    Calls Try.prog 29 #[v, .func (.func 32) #[] #[.pointer (some ⟨c, 0, none⟩)]] w fun e w' => (∃ u, e = .returned u ∧ SlI w' u (js.map fun j => at0 j.2.1 s)) ∧ Below w.heap.size w w' := by
  obtain ⟨bJ, oJ, cap, rfl, hbJ, -⟩ := hl.1.addr ok.pos
  have hfew := ok.few
  obtain ⟨j0, hj, hy0, hy1, hy2⟩ := info_parts (P := Try.prog) (e := 3) (z := .int .i64 0) (size := 1) (bytes := 8) (by kernel_rfl)
  have HL := Lib.hid hl
  have HOK := Lib.hid ok
  have HS := Lib.hid hs
  have HC := Lib.hid hc
  clear hl hs hc
  go_enter Try.func29, Try.ntmps29
  go_wp2_with (at_make; refine wpList_make_full _ rfl _ _ 23 rfl w.heap.size 3 j0 _ 1 Try.underlying23 hj hy0 hy1 .i64 .i64 _ _ js.length rfl rfl rfl rfl ?c1 ?c2 ?c3 ?_)
  case c1 => rw [hy2]; omega
  case c2 => unfold maxLen; omega
  case c3 => exact Nat.le_refl _
  intro w1 hown hgrow
  have hX2 : Below w.heap.size w w1 := (Below.refl _ _).grown hgrow (Nat.le_refl _) (fun k hk => by cases hk)
  have hK := RowK.made hown
  have hlen := hown.1
  clear hgrow hown
  generalize (madeCells #[Value.int .i64 0] js.length).toList = Z at hK hlen
  rw [Nat.mul_one] at hlen
  go_wp2_with fail
  go_loopw [13] (fun i wr => ∃ (k : Nat) (cs : List Value), k ≤ js.length ∧ i = .int .i64 k ∧ RowK wr 3 w.heap.size cs ∧ cs.length = js.length ∧ (∀ q j, q < k → js[q]? = some j → cs[q]? = some (.int .i64 (at0 j.2.1 s))) ∧ Below w.heap.size w wr) (fun i _ => js.length - (intOf i).toNat)
  case atStart => exact ⟨0, Z, Nat.zero_le _, rfl, hK, hlen, fun j c hj _ => absurd hj (Nat.not_lt_zero j), hX2⟩
  case round =>
    clear hK hlen hX2 Z
    obtain ⟨k, cs, hk, rfl, hK, hlen, hall, hX⟩ := hrel
    rename World => w3
    rcases Nat.lt_or_eq_of_le hk with hkn | rfl
    · obtain ⟨⟨nm, t, d⟩, hj2⟩ : ∃ j, js[k]? = some j := ⟨_, List.getElem?_eq_getElem hkn⟩
      obtain ⟨-, -, At, Ad, ct, cd, q0, q1, q2, ht, hd, hct, hcd⟩ := (HL.out.below hX).at_ hj2
      dsimp only at q0 q1 q2 ht hd hct hcd
      have hjo := HOK.out.ok _ (List.mem_of_getElem? hj2)
      obtain ⟨W1, hW⟩ : ∃ W1, W1 = w3.alloc (.cells #[.string nm, .slice At t.length ct, .slice Ad d.length cd] 31) := ⟨_, rfl⟩
      have hB1 : Below w3.heap.size w3 W1 := by subst hW; exact (Below.refl _ _).alloc (Nat.le_refl _) _
      have hX1 := hX.trans (hB1.mono hX.size)
      have kC := shBnd1_ok nm At Ad ct cd t d m s c W1 ((ht.below hB1)) ((hd.below hB1)) hjo HS.out hct hcd ((hX1.cell (p := ⟨c, 0, none⟩) hcl).trans HC.out) (Nat.lt_of_lt_of_le hcl hX1.size)
      obtain ⟨v0, hv0⟩ : ∃ v0, cs[k]? = some v0 := ⟨_, List.getElem?_eq_getElem (by omega)⟩
      have hres : ∀ (r : Int), r = at0 t s → ∀ (q : Nat) (j : JobT), q < k + 1 → js[q]? = some j → (cs.set k (.int .i64 r))[q]? = some (.int .i64 (at0 j.2.1 s)) := fun r hr q j hq hqj => by
        rcases Nat.lt_or_eq_of_le (Nat.le_of_lt_succ hq) with h1 | rfl
        · rw [List.getElem?_set_ne (by omega)]
          exact hall q j h1 hqj
        · obtain rfl := Option.some.inj (hj2.symm.trans hqj)
          rw [List.getElem?_set_self (by omega), hr]
      clear hall
      generalize at0 t s = r at kC hres
      have hres := hres r rfl
      have hi0 : (0 : Int) ≤ k := by omega
      have hi1 : (k : Int) < js.length := by omega
      have HK := Lib.hid (show k + 1 ≤ js.length from hkn)
      have HM := Lib.hid (show js.length - (k + 1) < js.length - k by omega)
      have HWK := Lib.hid (wrapsV (show k < 1048576 by omega))
      have HRES := Lib.hid hres
      have HKK := Lib.hid (And.intro hK hB1)
      have HLN := Lib.hid hlen
      have HX1 := Lib.hid hX1
      have HV0 := Lib.hid hv0
      unfold jobV at kC
      clear hj2 ht hd hct hcd hjo hres hK hlen hX1 hv0 hB1
      go_wp2_with fail
      rw [← hW]
      clear hW
      refine kC.mono ?_
      rintro e w4 ⟨rfl, hB4⟩
      have hK4 := (HKK.out.1.below HKK.out.2).below hB4
      have o0 := hK4.cell HV0.out
      have fz := hK4.fz
      have HR : RowKit.Hid (RowK (w4.setCell ⟨w.heap.size, k, none⟩ (.int .i64 r)) 3 w.heap.size (cs.set k (.int .i64 r)) ∧ Below w.heap.size w (w4.setCell ⟨w.heap.size, k, none⟩ (.int .i64 r))) := Lib.hid ⟨hK4.set k _, (HX1.out.trans (hB4.mono HX1.out.size)).setCell (Nat.le_refl _) _⟩
      obtain ⟨wk1, wk2⟩ := HWK.out
      clear hK4 kC q0 q1 q2
      go_wp2_with fail
      go_roundw
      case rel => exact ⟨k + 1, _, HK.out, by simp, HR.out.1, by simp [HLN.out], HRES.out, HR.out.2⟩
      case measure => exact HM.out
    · have hsl : SlI w3 (.slice (some ⟨w.heap.size, 0, none⟩) js.length js.length) (js.map fun j => at0 j.2.1 s) := by
        have hI : IAt w3 w.heap.size 0 (js.map fun j => at0 j.2.1 s) := fun i x hi => by
          rw [List.getElem?_map] at hi
          obtain ⟨j, hj, rfl⟩ := Option.map_eq_some_iff.1 hi
          rw [Nat.zero_add]
          exact hK.cell (hall i j (List.getElem?_eq_some_iff.1 hj).1 hj)
        have h := SlI.row (cap := js.length) hI hK.lt
        rw [List.length_map] at h
        exact h
      have HR := Lib.hid hsl
      clear hsl hK hall
      go_wp2_with fail
      go_ret
      exact ⟨⟨_, rfl, HR.out⟩, hX⟩
theorem lsBef_ok (js : List JobT) (m s c : Nat) (v : Value) (w : World) (hl : SlJC w v js) (ok : JobsOk m js) (hs : s < m) (hc : w.cell? ⟨c, 0, none⟩ = some (.int .i64 s)) (hcl : c < w.heap.size) :
    Calls Try.prog 29 #[v, .func (.func 34) #[] #[.pointer (some ⟨c, 0, none⟩)]] w fun e w' => (∃ u, e = .returned u ∧ SlI w' u (js.map fun j => befJ j s)) ∧ Below w.heap.size w w' := by
  obtain ⟨bJ, oJ, cap, rfl, hbJ, -⟩ := hl.1.addr ok.pos
  have hfew := ok.few
  obtain ⟨j0, hj, hy0, hy1, hy2⟩ := info_parts (P := Try.prog) (e := 3) (z := .int .i64 0) (size := 1) (bytes := 8) (by kernel_rfl)
  have HL := Lib.hid hl
  have HOK := Lib.hid ok
  have HS := Lib.hid hs
  have HC := Lib.hid hc
  clear hl hs hc
  go_enter Try.func29, Try.ntmps29
  go_wp2_with (at_make; refine wpList_make_full _ rfl _ _ 23 rfl w.heap.size 3 j0 _ 1 Try.underlying23 hj hy0 hy1 .i64 .i64 _ _ js.length rfl rfl rfl rfl ?c1 ?c2 ?c3 ?_)
  case c1 => rw [hy2]; omega
  case c2 => unfold maxLen; omega
  case c3 => exact Nat.le_refl _
  intro w1 hown hgrow
  have hX2 : Below w.heap.size w w1 := (Below.refl _ _).grown hgrow (Nat.le_refl _) (fun k hk => by cases hk)
  have hK := RowK.made hown
  have hlen := hown.1
  clear hgrow hown
  generalize (madeCells #[Value.int .i64 0] js.length).toList = Z at hK hlen
  rw [Nat.mul_one] at hlen
  go_wp2_with fail
  go_loopw [13] (fun i wr => ∃ (k : Nat) (cs : List Value), k ≤ js.length ∧ i = .int .i64 k ∧ RowK wr 3 w.heap.size cs ∧ cs.length = js.length ∧ (∀ q j, q < k → js[q]? = some j → cs[q]? = some (.int .i64 (befJ j s))) ∧ Below w.heap.size w wr) (fun i _ => js.length - (intOf i).toNat)
  case atStart => exact ⟨0, Z, Nat.zero_le _, rfl, hK, hlen, fun j c hj _ => absurd hj (Nat.not_lt_zero j), hX2⟩
  case round =>
    clear hK hlen hX2 Z
    obtain ⟨k, cs, hk, rfl, hK, hlen, hall, hX⟩ := hrel
    rename World => w3
    rcases Nat.lt_or_eq_of_le hk with hkn | rfl
    · obtain ⟨⟨nm, t, d⟩, hj2⟩ : ∃ j, js[k]? = some j := ⟨_, List.getElem?_eq_getElem hkn⟩
      obtain ⟨-, -, At, Ad, ct, cd, q0, q1, q2, ht, hd, hct, hcd⟩ := (HL.out.below hX).at_ hj2
      dsimp only at q0 q1 q2 ht hd hct hcd
      have hjo := HOK.out.ok _ (List.mem_of_getElem? hj2)
      obtain ⟨W1, hW⟩ : ∃ W1, W1 = w3.alloc (.cells #[.string nm, .slice At t.length ct, .slice Ad d.length cd] 31) := ⟨_, rfl⟩
      have hB1 : Below w3.heap.size w3 W1 := by subst hW; exact (Below.refl _ _).alloc (Nat.le_refl _) _
      have hX1 := hX.trans (hB1.mono hX.size)
      have kC := shBnd2_ok nm At Ad ct cd t d m s c W1 ((ht.below hB1)) ((hd.below hB1)) hjo HS.out hct hcd ((hX1.cell (p := ⟨c, 0, none⟩) hcl).trans HC.out) (Nat.lt_of_lt_of_le hcl hX1.size)
      obtain ⟨v0, hv0⟩ : ∃ v0, cs[k]? = some v0 := ⟨_, List.getElem?_eq_getElem (by omega)⟩
      have hres : ∀ (r : Int), r = befJ (nm, t, d) s → ∀ (q : Nat) (j : JobT), q < k + 1 → js[q]? = some j → (cs.set k (.int .i64 r))[q]? = some (.int .i64 (befJ j s)) := fun r hr q j hq hqj => by
        rcases Nat.lt_or_eq_of_le (Nat.le_of_lt_succ hq) with h1 | rfl
        · rw [List.getElem?_set_ne (by omega)]
          exact hall q j h1 hqj
        · obtain rfl := Option.some.inj (hj2.symm.trans hqj)
          rw [List.getElem?_set_self (by omega), hr]
      clear hall
      generalize befJ (nm, t, d) s = r at kC hres
      have hres := hres r rfl
      have hi0 : (0 : Int) ≤ k := by omega
      have hi1 : (k : Int) < js.length := by omega
      have HK := Lib.hid (show k + 1 ≤ js.length from hkn)
      have HM := Lib.hid (show js.length - (k + 1) < js.length - k by omega)
      have HWK := Lib.hid (wrapsV (show k < 1048576 by omega))
      have HRES := Lib.hid hres
      have HKK := Lib.hid (And.intro hK hB1)
      have HLN := Lib.hid hlen
      have HX1 := Lib.hid hX1
      have HV0 := Lib.hid hv0
      unfold jobV at kC
      clear hj2 ht hd hct hcd hjo hres hK hlen hX1 hv0 hB1
      go_wp2_with fail
      rw [← hW]
      clear hW
      refine kC.mono ?_
      rintro e w4 ⟨rfl, hB4⟩
      have hK4 := (HKK.out.1.below HKK.out.2).below hB4
      have o0 := hK4.cell HV0.out
      have fz := hK4.fz
      have HR : RowKit.Hid (RowK (w4.setCell ⟨w.heap.size, k, none⟩ (.int .i64 r)) 3 w.heap.size (cs.set k (.int .i64 r)) ∧ Below w.heap.size w (w4.setCell ⟨w.heap.size, k, none⟩ (.int .i64 r))) := Lib.hid ⟨hK4.set k _, (HX1.out.trans (hB4.mono HX1.out.size)).setCell (Nat.le_refl _) _⟩
      obtain ⟨wk1, wk2⟩ := HWK.out
      clear hK4 kC q0 q1 q2
      go_wp2_with fail
      go_roundw
      case rel => exact ⟨k + 1, _, HK.out, by simp, HR.out.1, by simp [HLN.out], HRES.out, HR.out.2⟩
      case measure => exact HM.out
    · have hsl : SlI w3 (.slice (some ⟨w.heap.size, 0, none⟩) js.length js.length) (js.map fun j => befJ j s) := by
        have hI : IAt w3 w.heap.size 0 (js.map fun j => befJ j s) := fun i x hi => by
          rw [List.getElem?_map] at hi
          obtain ⟨j, hj, rfl⟩ := Option.map_eq_some_iff.1 hi
          rw [Nat.zero_add]
          exact hK.cell (hall i j (List.getElem?_eq_some_iff.1 hj).1 hj)
        have h := SlI.row (cap := js.length) hI hK.lt
        rw [List.length_map] at h
        exact h
      have HR := Lib.hid hsl
      clear hsl hK hall
      go_wp2_with fail
      go_ret
      exact ⟨⟨_, rfl, HR.out⟩, hX⟩
theorem lsAft_ok (js : List JobT) (m s c : Nat) (v : Value) (w : World) (hl : SlJC w v js) (ok : JobsOk m js) (hs : s < m) (hc : w.cell? ⟨c, 0, none⟩ = some (.int .i64 s)) (hcl : c < w.heap.size) :
    Calls Try.prog 29 #[v, .func (.func 36) #[] #[.pointer (some ⟨c, 0, none⟩)]] w fun e w' => (∃ u, e = .returned u ∧ SlI w' u (js.map fun j => aftJ j s)) ∧ Below w.heap.size w w' := by
  obtain ⟨bJ, oJ, cap, rfl, hbJ, -⟩ := hl.1.addr ok.pos
  have hfew := ok.few
  obtain ⟨j0, hj, hy0, hy1, hy2⟩ := info_parts (P := Try.prog) (e := 3) (z := .int .i64 0) (size := 1) (bytes := 8) (by kernel_rfl)
  have HL := Lib.hid hl
  have HOK := Lib.hid ok
  have HS := Lib.hid hs
  have HC := Lib.hid hc
  clear hl hs hc
  go_enter Try.func29, Try.ntmps29
  go_wp2_with (at_make; refine wpList_make_full _ rfl _ _ 23 rfl w.heap.size 3 j0 _ 1 Try.underlying23 hj hy0 hy1 .i64 .i64 _ _ js.length rfl rfl rfl rfl ?c1 ?c2 ?c3 ?_)
  case c1 => rw [hy2]; omega
  case c2 => unfold maxLen; omega
  case c3 => exact Nat.le_refl _
  intro w1 hown hgrow
  have hX2 : Below w.heap.size w w1 := (Below.refl _ _).grown hgrow (Nat.le_refl _) (fun k hk => by cases hk)
  have hK := RowK.made hown
  have hlen := hown.1
  clear hgrow hown
  generalize (madeCells #[Value.int .i64 0] js.length).toList = Z at hK hlen
  rw [Nat.mul_one] at hlen
  go_wp2_with fail
  go_loopw [13] (fun i wr => ∃ (k : Nat) (cs : List Value), k ≤ js.length ∧ i = .int .i64 k ∧ RowK wr 3 w.heap.size cs ∧ cs.length = js.length ∧ (∀ q j, q < k → js[q]? = some j → cs[q]? = some (.int .i64 (aftJ j s))) ∧ Below w.heap.size w wr) (fun i _ => js.length - (intOf i).toNat)
  case atStart => exact ⟨0, Z, Nat.zero_le _, rfl, hK, hlen, fun j c hj _ => absurd hj (Nat.not_lt_zero j), hX2⟩
  case round =>
    clear hK hlen hX2 Z
    obtain ⟨k, cs, hk, rfl, hK, hlen, hall, hX⟩ := hrel
    rename World => w3
    rcases Nat.lt_or_eq_of_le hk with hkn | rfl
    · obtain ⟨⟨nm, t, d⟩, hj2⟩ : ∃ j, js[k]? = some j := ⟨_, List.getElem?_eq_getElem hkn⟩
      obtain ⟨-, -, At, Ad, ct, cd, q0, q1, q2, ht, hd, hct, hcd⟩ := (HL.out.below hX).at_ hj2
      dsimp only at q0 q1 q2 ht hd hct hcd
      have hjo := HOK.out.ok _ (List.mem_of_getElem? hj2)
      obtain ⟨W1, hW⟩ : ∃ W1, W1 = w3.alloc (.cells #[.string nm, .slice At t.length ct, .slice Ad d.length cd] 31) := ⟨_, rfl⟩
      have hB1 : Below w3.heap.size w3 W1 := by subst hW; exact (Below.refl _ _).alloc (Nat.le_refl _) _
      have hX1 := hX.trans (hB1.mono hX.size)
      have kC := shBnd3_ok nm At Ad ct cd t d m s c W1 ((ht.below hB1)) ((hd.below hB1)) hjo HS.out hct hcd ((hX1.cell (p := ⟨c, 0, none⟩) hcl).trans HC.out) (Nat.lt_of_lt_of_le hcl hX1.size)
      obtain ⟨v0, hv0⟩ : ∃ v0, cs[k]? = some v0 := ⟨_, List.getElem?_eq_getElem (by omega)⟩
      have hres : ∀ (r : Int), r = aftJ (nm, t, d) s → ∀ (q : Nat) (j : JobT), q < k + 1 → js[q]? = some j → (cs.set k (.int .i64 r))[q]? = some (.int .i64 (aftJ j s)) := fun r hr q j hq hqj => by
        rcases Nat.lt_or_eq_of_le (Nat.le_of_lt_succ hq) with h1 | rfl
        · rw [List.getElem?_set_ne (by omega)]
          exact hall q j h1 hqj
        · obtain rfl := Option.some.inj (hj2.symm.trans hqj)
          rw [List.getElem?_set_self (by omega), hr]
      clear hall
      generalize aftJ (nm, t, d) s = r at kC hres
      have hres := hres r rfl
      have hi0 : (0 : Int) ≤ k := by omega
      have hi1 : (k : Int) < js.length := by omega
      have HK := Lib.hid (show k + 1 ≤ js.length from hkn)
      have HM := Lib.hid (show js.length - (k + 1) < js.length - k by omega)
      have HWK := Lib.hid (wrapsV (show k < 1048576 by omega))
      have HRES := Lib.hid hres
      have HKK := Lib.hid (And.intro hK hB1)
      have HLN := Lib.hid hlen
      have HX1 := Lib.hid hX1
      have HV0 := Lib.hid hv0
      unfold jobV at kC
      clear hj2 ht hd hct hcd hjo hres hK hlen hX1 hv0 hB1
      go_wp2_with fail
      rw [← hW]
      clear hW
      refine kC.mono ?_
      rintro e w4 ⟨rfl, hB4⟩
      have hK4 := (HKK.out.1.below HKK.out.2).below hB4
      have o0 := hK4.cell HV0.out
      have fz := hK4.fz
      have HR : RowKit.Hid (RowK (w4.setCell ⟨w.heap.size, k, none⟩ (.int .i64 r)) 3 w.heap.size (cs.set k (.int .i64 r)) ∧ Below w.heap.size w (w4.setCell ⟨w.heap.size, k, none⟩ (.int .i64 r))) := Lib.hid ⟨hK4.set k _, (HX1.out.trans (hB4.mono HX1.out.size)).setCell (Nat.le_refl _) _⟩
      obtain ⟨wk1, wk2⟩ := HWK.out
      clear hK4 kC q0 q1 q2
      go_wp2_with fail
      go_roundw
      case rel => exact ⟨k + 1, _, HK.out, by simp, HR.out.1, by simp [HLN.out], HRES.out, HR.out.2⟩
      case measure => exact HM.out
    · have hsl : SlI w3 (.slice (some ⟨w.heap.size, 0, none⟩) js.length js.length) (js.map fun j => aftJ j s) := by
        have hI : IAt w3 w.heap.size 0 (js.map fun j => aftJ j s) := fun i x hi => by
          rw [List.getElem?_map] at hi
          obtain ⟨j, hj, rfl⟩ := Option.map_eq_some_iff.1 hi
          rw [Nat.zero_add]
          exact hK.cell (hall i j (List.getElem?_eq_some_iff.1 hj).1 hj)
        have h := SlI.row (cap := js.length) hI hK.lt
        rw [List.length_map] at h
        exact h
      have HR := Lib.hid hsl
      clear hsl hK hall
      go_wp2_with fail
      go_ret
      exact ⟨⟨_, rfl, HR.out⟩, hX⟩
end Go.Proofs
