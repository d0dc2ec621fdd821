import Derived.Test.YtclmaobblnfplaaJbL
import Derived.Test.YtclmaobblnfplaaJobI
import Derived.Test.YtclmaobblnfplaaJbN
section
/- Jobs: isEarly of shop. -/
namespace Go.Proofs
open Go.RowKit Go.MapKept
set_option maxHeartbeats 16000000
set_option maxRecDepth 1000000
/-- A job starts too early at a station. -/
def Early (t d st : List Int) : Prop := ∃ s : Nat, s + 1 < st.length ∧ at0 st (s + 1) < at0 st s + at0 t s + at0 d s
def DecS (P : Prop) (w : World) (e : Ending) (w' : World) : Prop := (∃ b : Bool, e = .returned (.bool b) ∧ (b = true ↔ P)) ∧ Below w.heap.size w w'
theorem decS_mk {P : Prop} {w w' : World} (b : Bool) (h : b = true ↔ P) (hb : Below w.heap.size w w') : DecS P w (.returned (.bool b)) w' := ⟨⟨b, rfl, h⟩, hb⟩
theorem shEarly_ok (nm : ByteArray) (vt vd vs : Value) (t d st : List Int) (m : Nat) (w : World) (ht : SlI w vt t) (hd : SlI w vd d) (hs : SlI w vs st) (hj : JobOk m (nm, t, d)) (hm : st.length = m) (hb : ∀ x ∈ st, 0 ≤ x ∧ x ≤ 999999999) :
    Calls Try.prog 42 #[jobV nm vt vd, vs] w (DecS (Early t d st) w) := by
  subst hm
  have hjt := hj.t
  have hjd := hj.d
  have hfew := hj.few
  dsimp only at hjt hjd
  obtain ⟨At, ct, rfl⟩ := ht.form
  obtain ⟨Ad, cd, rfl⟩ := hd.form
  obtain ⟨As, cs, rfl⟩ := hs.form
  have HEY : RowKit.Hid (∀ k : Nat, k + 1 < st.length → at0 st (k + 1) < at0 st k + at0 t k + at0 d k → Early t d st) := Lib.hid fun k h1 h2 => ⟨k, h1, h2⟩
  have HEN : RowKit.Hid ((∀ k : Nat, k + 1 < st.length → ¬ at0 st (k + 1) < at0 st k + at0 t k + at0 d k) → ¬ Early t d st) := Lib.hid fun h => by
    rintro ⟨k, h1, h2⟩
    exact h k h1 h2
  generalize Early t d st = EE at HEY HEN ⊢
  unfold jobV
  obtain ⟨W0, hW⟩ : ∃ W0, W0 = w.alloc (.cells #[.string nm, .slice At t.length ct, .slice Ad d.length cd] 31) := ⟨_, rfl⟩
  have hB0 : Below w.heap.size w W0 := by subst hW; exact (Below.refl _ _).alloc (Nat.le_refl _) _
  have rj : RowK W0 31 w.heap.size [.string nm, .slice At t.length ct, .slice Ad d.length cd] := by subst hW; exact heap_alloc_new w _
  have kk : ∀ V, Below W0.heap.size W0 V → V.cell? ⟨w.heap.size, 0, none⟩ = some (.string nm) ∧ V.cell? ⟨w.heap.size, 1, none⟩ = some (.slice At t.length ct) ∧ V.cell? ⟨w.heap.size, 2, none⟩ = some (.slice Ad d.length cd) := fun V h => ⟨(rj.below h).cell (by rfl), (rj.below h).cell (by rfl), (rj.below h).cell (by rfl)⟩
  have hpos : 0 < st.length := by omega
  have wm1 : wrap64 ((st.length : Int) - 1) = (st.length : Int) - 1 := wrap64_small (by omega)
  have wm2 : IntKind.i64.wrap ((st.length : Int) - 1) = (st.length : Int) - 1 := wrap_small (by omega)
  have kR := fun (k : Nat) (y : Int) W (h : Below w.heap.size w W) (hk : k + 1 < st.length) (hy : 0 ≤ y ∧ y ≤ 1000000000) => ready_ok nm _ _ t d k y W (ht.below h) (hd.below h) (by omega) (by omega) hj.tb hj.db hy
  unfold jobV at kR
  have hX0 := Below.refl W0.heap.size W0
  have ksl : ∀ V, Below W0.heap.size W0 V → SlI V (.slice As st.length cs) st := fun V h => (hs.below hB0).below h
  have HKR := Lib.hid kR
  have HB := Lib.hid hb
  have HKK := Lib.hid kk
  clear hj hjt hjd ht hd hs rj kR hb kk
  go_enter Try.func42, Try.ntmps42
  go_wp2_with fail
  rw [← hW]
  clear hW
  go_loopw [9] (fun i wr => ∃ k : Nat, k + 1 ≤ st.length ∧ i = .int .i64 k ∧ (∀ q : Nat, q < k → ¬ at0 st (q + 1) < at0 st q + at0 t q + at0 d q) ∧ Below W0.heap.size W0 wr) (fun i _ => st.length - (intOf i).toNat)
  case atStart => exact ⟨0, hpos, rfl, fun q h => absurd h (Nat.not_lt_zero q), hX0⟩
  case round =>
    clear hX0
    obtain ⟨k, hk, rfl, hp, hX⟩ := hrel
    rename World => w3
    have HP := Lib.hid hp
    clear hp
    rcases Nat.lt_or_eq_of_le hk with hkn | hke
    · obtain ⟨bs, os, y, rfl, -, hbs, hy, ry⟩ := (ksl _ hX).cells (k := k) (by omega)
      obtain ⟨bs', os', z, e5, -, hbs2, hz, rz⟩ := (ksl _ hX).cells hkn
      obtain ⟨rfl, rfl⟩ : bs = bs' ∧ os = os' := by injection e5 with e6; injection e6 with e7 e8; exact ⟨e7, e8⟩
      have hyb := HB.out y (List.mem_of_getElem? hy)
      have hye := at0_some hy
      have hze := at0_some hz
      have hi0 : (0 : Int) ≤ k := by omega
      have hi1 : (k : Int) < (st.length : Int) - 1 := by omega
      have hi2 : (k : Int) < (st.length : Int) := by omega
      have hi3 : (k : Int) + 1 < (st.length : Int) := by omega
      have hi4 : (0 : Int) ≤ (k : Int) + 1 := by omega
      have HK := Lib.hid (show k + 1 + 1 ≤ st.length from hkn)
      have HM := Lib.hid (show st.length - (k + 1) < st.length - k by omega)
      obtain ⟨wk1, wk2⟩ := wrapsV (show k < 1048576 by omega)
      have hD := hX.drew
      have hky0 := HKK.out _ hD
      have kR0 := HKR.out k y w3.drew ((hB0.trans (hD.mono hB0.size))) hkn (by omega)
      rw [← hye] at kR0
      obtain ⟨rd, hrd⟩ : ∃ rd, rd = at0 st k + at0 t k + at0 d k := ⟨_, rfl⟩
      rw [hye] at kR0
      rw [hye] at hrd
      rw [← hrd] at kR0
      have hcells : ∀ V, Below w3.drew.heap.size w3.drew V → (V.cell? ⟨w.heap.size, 0, none⟩ = some (.string nm) ∧ V.cell? ⟨w.heap.size, 1, none⟩ = some (.slice At t.length ct) ∧ V.cell? ⟨w.heap.size, 2, none⟩ = some (.slice Ad d.length cd)) ∧ V.cell? ⟨bs, os + k, none⟩ = some (.int .i64 y) ∧ V.cell? ⟨bs, os + (k + 1), none⟩ = some (.int .i64 z) := fun V h => ⟨HKK.out _ (hD.trans (h.mono hD.size)), (h.cell (p := ⟨bs, os + k, none⟩) hbs).trans ry, (h.cell (p := ⟨bs, os + (k + 1), none⟩) hbs).trans rz⟩
      have hky := hcells _ (Below.refl _ _)
      have HDEC : RowKit.Hid (z < rd ↔ at0 st (k + 1) < at0 st k + at0 t k + at0 d k) := Lib.hid (by rw [hze, hye, ← hrd])
      obtain ⟨zb, hzb⟩ : ∃ zb, decide (z < rd) = zb := ⟨_, rfl⟩
      have HD := Lib.hid hD
      clear hye hze hrd hyb hy hz ry rz hX hky0 ksl hbs2
      go_wp2_with fail
      go_region_held3 (fun V => (V.cell? ⟨w.heap.size, 0, none⟩ = some (.string nm) ∧ V.cell? ⟨w.heap.size, 1, none⟩ = some (.slice At t.length ct) ∧ V.cell? ⟨w.heap.size, 2, none⟩ = some (.slice Ad d.length cd)) ∧ V.cell? ⟨bs, os + k, none⟩ = some (.int .i64 y) ∧ V.cell? ⟨bs, os + (k + 1), none⟩ = some (.int .i64 z)) (first | exact hky | exact hky2 | go_keep)
        (first
          | (go_at_call 49; refine kR0.mono ?_; rintro e v1 ⟨rfl, hQ1⟩; have hky2 := hcells _ hQ1; have hX1 := HD.out.trans (hQ1.mono HD.out.size)))
      rename_i hHeld
      clear hHeld hky hky2 kR0 hcells
      cases zb with
      | true =>
        have hEy : EE := HEY.out k hkn (HDEC.out.1 (of_decide_eq_true hzb))
        have HEE := Lib.hid hEy
        clear hEy
        go_wp2_with fail
        go_ret
        exact decS_mk true ⟨fun _ => HEE.out, fun _ => rfl⟩ (hB0.trans (hX1.mono hB0.size))
      | false =>
        have HN : RowKit.Hid (∀ q : Nat, q < k + 1 → ¬ at0 st (q + 1) < at0 st q + at0 t q + at0 d q) := Lib.hid fun q h1 => by
          rcases Nat.lt_or_eq_of_le (Nat.le_of_lt_succ h1) with h3 | rfl
          · first | exact HP.out q h3 | exact Int.not_lt.2 (HP.out q h3) | exact Int.not_lt.1 (HP.out q h3)
          · exact fun h => of_decide_eq_false hzb (HDEC.out.2 h)
        go_wp2_with fail
        go_roundw
        case rel => exact ⟨k + 1, HK.out, by simp, HN.out, hX1⟩
        case measure => exact HM.out
    · have hEn : ¬ EE := HEN.out (fun q h => by
        have h3 := HP.out q (by omega)
        first | exact h3 | exact Int.not_lt.2 h3 | exact Int.not_lt.1 h3)
      have HEE := Lib.hid hEn
      have hi5 : (k : Int) = (st.length : Int) - 1 := by omega
      have hi6 : decide ((k : Int) < (st.length : Int) - 1) = false := decide_eq_false (by omega)
      clear hEn hi5
      go_wp2_with fail
      go_ret
      exact decS_mk false ⟨fun h => (by cases h), fun h => absurd h HEE.out⟩ (hB0.trans (hX.mono hB0.size))
end Go.Proofs
end

section
/- Jobs: when they are at a station: uses of shop. -/
namespace Go.Proofs
open Go.RowKit Go.MapKept
set_option maxHeartbeats 16000000
set_option maxRecDepth 1000000
abbrev UseT := Int × Int
def encU (t : UseT) : List Value := [.int .i64 t.1, .int .i64 t.2]
theorem encU_len : ∀ t, (encU t).length = 2 := fun _ => rfl
def useK (js : List JobT) (S : List (List Int)) (s : Nat) : List UseT := List.zipWith (fun j x => (at0 x s, at0 x s + at0 j.2.1 s)) js S
theorem useK_len {js : List JobT} {S : List (List Int)} {s : Nat} (h : S.length = js.length) : (useK js S s).length = js.length := by
  unfold useK
  rw [List.length_zipWith]
  omega
theorem useK_at {js : List JobT} {S : List (List Int)} {s k : Nat} {j : JobT} {x : List Int} (hj : js[k]? = some j) (hx : S[k]? = some x) : (useK js S s)[k]? = some (at0 x s, at0 x s + at0 j.2.1 s) := by
  unfold useK
  rw [List.getElem?_zipWith, hj, hx]
def UseAt (cs : List Value) (U : List UseT) (k : Nat) : Prop := ∀ (j : Nat) (c : UseT), j < k → U[j]? = some c → cs[j * 2]? = some (.int .i64 c.1) ∧ cs[j * 2 + 1]? = some (.int .i64 c.2)
theorem useAt_set {cs : List Value} {U : List UseT} {k : Nat} {x y : Int} (h : UseAt cs U k) (hc : U[k]? = some (x, y)) (hk : k * 2 + 1 < cs.length) :
    UseAt ((cs.set (k * 2) (.int .i64 x)).set (k * 2 + 1) (.int .i64 y)) U (k + 1) := fun j c hj hcj => by
  rcases Nat.lt_or_eq_of_le (Nat.le_of_lt_succ hj) with h1 | rfl
  · obtain ⟨a0, a1⟩ := h j c h1 hcj
    refine ⟨?_, ?_⟩
    · rw [List.getElem?_set_ne (by omega), List.getElem?_set_ne (by omega)]; exact a0
    · rw [List.getElem?_set_ne (by omega), List.getElem?_set_ne (by omega)]; exact a1
  · obtain rfl := Option.some.inj (hc.symm.trans hcj)
    refine ⟨?_, ?_⟩
    · rw [List.getElem?_set_ne (by omega), List.getElem?_set_self (by omega)]
    · rw [List.getElem?_set_self (by simp; omega)]
theorem useAt_row {w : World} {t : TypeId} {g : Nat} {cs : List Value} {U : List UseT} (h : RowK w t g cs) (hc : UseAt cs U U.length) : ∀ (k : Nat) (c : UseT), U[k]? = some c → w.cell? ⟨g, k * 2, none⟩ = some (.int .i64 c.1) ∧ w.cell? ⟨g, k * 2 + 1, none⟩ = some (.int .i64 c.2) := fun k c hk => by
  obtain ⟨a0, a1⟩ := hc k c (List.getElem?_eq_some_iff.1 hk).1 hk
  exact ⟨h.cell a0, h.cell a1⟩
/-- A row of uses. -/
def UAt (w : World) (g : Nat) (U : List UseT) : Prop := g < w.heap.size ∧ ∀ (k : Nat) (c : UseT), U[k]? = some c → w.cell? ⟨g, k * 2, none⟩ = some (.int .i64 c.1) ∧ w.cell? ⟨g, k * 2 + 1, none⟩ = some (.int .i64 c.2)
theorem UAt.below {w w' : World} {g : Nat} {U : List UseT} (h : UAt w g U) (hb : Below w.heap.size w w') : UAt w' g U :=
  ⟨Nat.lt_of_lt_of_le h.1 hb.size, fun k c hk => by
    obtain ⟨h1, h2⟩ := h.2 k c hk
    exact ⟨(hb.cell (p := ⟨g, _, none⟩) h.1).trans h1, (hb.cell (p := ⟨g, _, none⟩) h.1).trans h2⟩⟩
theorem wrapC2 {n : Int} (h : 0 ≤ n ∧ n ≤ 1000000000000000) : wrap64 n = n ∧ IntKind.i64.wrap n = n := ⟨wrap64_small (by omega), wrap_small (by omega)⟩
theorem shUses_ok (js : List JobT) (S : List (List Int)) (m s : Nat) (v vs : Value) (w : World) (hl : SlJ w v js) (hS : SlLL w vs S) (ok : JobsOk m js) (hSn : S.length = js.length) (hx : ∀ x ∈ S, x.length = m ∧ ∀ y ∈ x, 0 ≤ y ∧ y ≤ 999999999) (hs : s < m) :
    Calls Try.prog 44 #[v, vs, .int .i64 s] w fun e w' => (∃ B, e = .returned (.slice (some ⟨B, 0, none⟩) js.length js.length) ∧ UAt w' B (useK js S s)) ∧ Below w.heap.size w w' := by
  obtain ⟨Av, cv, rfl⟩ := hS.form
  rw [hSn] at hS ⊢
  obtain ⟨bJ, oJ, cap, rfl, hbJ, hat⟩ := hl.addr ok.pos
  obtain ⟨j0, hj, hy0, hy1, hy2⟩ := info_parts (P := Try.prog) (e := 70) (z := .agg #[.int .i64 0, .int .i64 0]) (size := 2) (bytes := 16) (by kernel_rfl)
  have hfew := ok.few
  obtain ⟨U, hU⟩ : ∃ U, U = useK js S s := ⟨_, rfl⟩
  have hUl : U.length = js.length := by rw [hU, useK_len hSn]
  have hUa : ∀ (k : Nat) (j : JobT) (x : List Int), js[k]? = some j → S[k]? = some x → U[k]? = some (at0 x s, at0 x s + at0 j.2.1 s) := fun k j x h1 h2 => by rw [hU]; exact useK_at h1 h2
  rw [← hU]
  have HUA := Lib.hid hUa
  have HUL := Lib.hid hUl
  have HAT := Lib.hid hat
  have HOK := Lib.hid ok
  have HXS := Lib.hid hx
  have HSN := Lib.hid hSn
  clear hl hat hU hUl hUa ok hx hSn
  go_enter Try.func44, Try.ntmps44
  go_wp2_with (at_make; refine wpList_make_full _ rfl _ _ 67 rfl w.heap.size 70 j0 _ 2 Try.underlying67 hj hy0 hy1 .i64 .i64 _ _ js.length rfl rfl rfl rfl ?c1 ?c2 ?c3 ?_)
  case c1 => rw [hy2]; omega
  case c2 => unfold maxLen; omega
  case c3 => exact Nat.le_refl _
  intro w1 hown hgrow
  have hX2 : Below w.heap.size w w1 := (Below.refl _ _).grown hgrow (Nat.le_refl _) (fun k hk => by cases hk)
  have hK := RowK.made hown
  have hlen := hown.1
  clear hgrow hown
  generalize (madeCells #[Value.int .i64 0, Value.int .i64 0] (js.length * 2)).toList = Z at hK hlen
  go_wp2
  go_loopw [16] (fun i wr => ∃ (k : Nat) (cs : List Value), k ≤ js.length ∧ i = .int .i64 k ∧ RowK wr 70 w.heap.size cs ∧ cs.length = js.length * 2 ∧ UseAt cs U k ∧ Below w.heap.size w wr) (fun i _ => js.length - (intOf i).toNat)
  case atStart => exact ⟨0, Z, Nat.zero_le _, rfl, hK, hlen, fun j c hj _ => absurd hj (Nat.not_lt_zero j), hX2⟩
  case round =>
    clear hK hlen hX2 Z
    obtain ⟨k, cs, hk, rfl, hK, hlen, hall, hX⟩ := hrel
    rename World => w3
    rcases Nat.lt_or_eq_of_le hk with hkn | rfl
    · obtain ⟨⟨nm, tl, dl⟩, hc⟩ : ∃ j, js[k]? = some j := ⟨_, List.getElem?_eq_getElem hkn⟩
      obtain ⟨vt, vd, j0, j1, j2, ht, hd⟩ := HAT.out k _ hc
      have hjo := HOK.out.ok _ (List.mem_of_getElem? hc)
      have hjt := hjo.t
      have htb := hjo.tb
      dsimp only at j0 j1 j2 ht hd hjt htb
      obtain ⟨At, ct, rfl⟩ := ht.form
      obtain ⟨Ad, cd, rfl⟩ := hd.form
      have r0 := (hX.cell (p := ⟨bJ, oJ + k * 3, none⟩) hbJ).trans j0
      have r1 := (hX.cell (p := ⟨bJ, oJ + k * 3 + 1, none⟩) hbJ).trans j1
      have r2 := (hX.cell (p := ⟨bJ, oJ + k * 3 + 2, none⟩) hbJ).trans j2
      obtain ⟨bS, oS, x, Ax, cx, rfl, hbS, hx, rS, hxs⟩ := (hS.below hX).cells (k := k) (by rw [HSN.out]; exact hkn)
      have hxo := HXS.out x (List.mem_of_getElem? hx)
      obtain ⟨bx, ox, y, rfl, -, hbx, hy, ry⟩ := hxs.cells (k := s) (by omega)
      obtain ⟨bt, ot, z, rfl, -, hbt, hz, rz⟩ := (ht.below hX).cells (k := s) (by omega)
      have hyb := hxo.2 y (List.mem_of_getElem? hy)
      have hzb := htb z (List.mem_of_getElem? hz)
      have hu := HUA.out k _ _ hc hx
      dsimp only at hu
      rw [at0_some hy, at0_some hz] at hu
      have hi0 : (0 : Int) ≤ k := by omega
      have hi1 : (k : Int) < js.length := by omega
      have hs0 : (0 : Int) ≤ s := by omega
      have hs1 : (s : Int) < x.length := by omega
      have hs2 : (s : Int) < tl.length := by omega
      obtain ⟨v0, hv0⟩ : ∃ v0, cs[k * 2]? = some v0 := ⟨_, List.getElem?_eq_getElem (by omega)⟩
      obtain ⟨v1, hv1⟩ : ∃ v1, cs[k * 2 + 1]? = some v1 := ⟨_, List.getElem?_eq_getElem (by omega)⟩
      have hres := useAt_set hall hu (by omega)
      have hK2 := hK.below ((Below.refl w3.heap.size w3).alloc (Nat.le_refl _) (.cells #[.string nm, .slice (some ⟨bt, ot, none⟩) tl.length ct, .slice Ad dl.length cd] 31))
      have hX3 := hX.alloc hX.size (.cells #[.string nm, .slice (some ⟨bt, ot, none⟩) tl.length ct, .slice Ad dl.length cd] 31)
      have o0 := hK.cell hv0
      have o1 := hK.cell hv1
      have fz := hK.fz
      have hlB : w.heap.size < w3.heap.size := hK.lt
      have hnB : w.heap.size ≠ w3.heap.size := Nat.ne_of_lt hlB
      have hlJ : bJ < w3.heap.size := Nat.lt_of_lt_of_le hbJ hX.size
      have hnS : bS ≠ w3.heap.size := Nat.ne_of_lt hbS
      have hnx : bx ≠ w3.heap.size := Nat.ne_of_lt hbx
      have hnt : bt ≠ w3.heap.size := Nat.ne_of_lt hbt
      have HK := Lib.hid (show k + 1 ≤ js.length from hkn)
      have HM := Lib.hid (show js.length - (k + 1) < js.length - k by omega)
      have HW := Lib.hid (wrapC2 (n := y + z) (by omega))
      have HRES := Lib.hid hres
      have hKs := (hK.set (k * 2) (.int .i64 y)).set (k * 2 + 1) (.int .i64 (y + z))
      have hXs := (hX.setCell (p := ⟨w.heap.size, k * 2, none⟩) (Nat.le_refl _) (.int .i64 y)).setCell (p := ⟨w.heap.size, k * 2 + 1, none⟩) (Nat.le_refl _) (.int .i64 (y + z))
      have HK2 := Lib.hid hKs
      have HX3 := Lib.hid hXs
      have HLE := Lib.hid hlen
      obtain ⟨wk1, wk2⟩ := wrapsV (show k < 1048576 by omega)
      obtain ⟨wa1, wa2⟩ := HW.out
      clear hc hx hxs hxo hy hz hyb hzb hu hres hK2 hX3 hKs hXs hall hjo hjt htb ht hd j0 j1 j2 hX hK hv0 hv1 hlen
      go_wp2_with fail
      go_roundw
      case rel => exact ⟨k + 1, _, HK.out, by simp, HK2.out.below ((Below.refl _ _).alloc (Nat.le_refl _) _), by simp [HLE.out], HRES.out, HX3.out.alloc HX3.out.size _⟩
      case measure => exact HM.out
    · have hrow := useAt_row hK (by rw [HUL.out]; exact hall)
      have HROW := Lib.hid hrow
      have hlB : w.heap.size < w3.heap.size := hK.lt
      clear hrow hall hK hlen
      go_wp2_with fail
      go_ret
      exact ⟨⟨w.heap.size, rfl, hlB, HROW.out⟩, hX⟩
end Go.Proofs
end
