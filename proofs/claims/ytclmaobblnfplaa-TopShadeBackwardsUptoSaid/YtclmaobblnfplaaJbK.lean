import Derived.Test.YtclmaobblnfplaaJbR
import Derived.Test.YtclmaobblnfplaaJbF
section
/- Jobs: rates and costs, of shop and of the reference. -/
namespace Go.Proofs
open Go.RowKit Go.MapKept
set_option maxHeartbeats 16000000
set_option maxRecDepth 1000000
noncomputable def ratesE (r : List Int) (m : Nat) : Int := orL [if r.length ≠ m then 2 else 0, allE r 0 999999999]
theorem ratesE_cases (r : List Int) (m : Nat) : (r.length ≠ m ∧ ratesE r m = 2) ∨ (r.length = m ∧ ratesE r m = allE r 0 999999999) := by
  unfold ratesE
  by_cases h : r.length = m
  · refine .inr ⟨h, ?_⟩
    rw [if_neg (fun h2 => h2 h)]
    rcases allE_or r 0 999999999 with h1 | h1 <;> rw [h1] <;> simp [orL]
  · refine .inl ⟨h, ?_⟩
    rw [if_pos h]
    simp [orL]
theorem or3_2 (a b : Int) : or3 a b 0 = orL [a, b] := by
  unfold or3 orL orL orL
  split <;> (try rfl)
  all_goals (try (split <;> simp_all))
theorem checkRatesX_ok (v : Value) (r : List Int) (m : Nat) (w : World) (hr : SlI w v r) (hn : r.length ≤ 1000) :
    Calls Try.prog 38 #[v, .int .i64 m] w fun e w' => e = .returned (.int .i64 (ratesE r m)) ∧ Below w.heap.size w w' := by
  obtain ⟨A, c, rfl⟩ := hr.form
  have kT := fun W (h : SlI W (.slice A r.length c) r) => shAllX_ok r _ 0 999999999 W h (by omega)
  obtain ⟨b1, hb1⟩ : ∃ b, ((r.length : Int) != (m : Int)) = b := ⟨_, rfl⟩
  have hE : ratesE r m = or3 (if b1 = true then 2 else 0) (allE r 0 999999999) 0 := by
    rw [or3_2]
    unfold ratesE
    congr 1
    have h1 : b1 = true ↔ r.length ≠ m := by
      rw [← hb1]
      simp only [bne_iff_ne, ne_eq]
      omega
    by_cases h : r.length ≠ m
    · rw [if_pos h, if_pos (h1.2 h)]
    · rw [if_neg h, if_neg (fun h2 => h (h1.1 h2))]
  rw [hE]
  clear hE
  have hw1 := fun W => shWhen_ok b1 2 W
  generalize allE r 0 999999999 = et at kT ⊢
  generalize (if b1 = true then (2 : Int) else 0) = es at hw1 ⊢
  have hD := Below.refl w.heap.size w
  have kT0 := kT _ (hr.below hD)
  have ho := fun blk W => shFirst2 es et blk 2 W
  generalize or3 es et 0 = er at ho ⊢
  have hBF := hD.alloc hD.size (.cells #[.int .i64 es, .int .i64 et] 37)
  clear kT hr
  go_enter Try.func38, Try.ntmps38
  go_wp2_with (first
    | (go_at_call 50; refine kT0.mono ?_; rintro e w4 ⟨rfl, hw4⟩; obtain rfl := hw4)
    | (go_at_call 21; refine (hw1 _).mono ?_; rintro e w4 ⟨rfl, hw4⟩; obtain rfl := hw4)
    | (go_at_call 19; refine (ho _ _ ?_ ?_).mono ?_; (go_simp); (go_simp); rintro e w5 ⟨rfl, hw5⟩; obtain rfl := hw5))
  go_ret
  exact ⟨rfl, hBF⟩
def dotK (t r : List Int) : Nat → Int
  | 0 => 0
  | k + 1 => dotK t r k + at0 t k * at0 r k
def costK (js : List JobT) (r : List Int) : Nat → Int
  | 0 => 0
  | k + 1 => costK js r k + dotK ((js[k]?).getD jobD).2.1 r r.length
theorem at0_bdR {l : List Int} (h : ∀ x ∈ l, 0 ≤ x ∧ x ≤ 999999999) (i : Nat) : 0 ≤ at0 l i ∧ at0 l i ≤ 999999999 := by
  unfold at0
  cases e : l[i]? with
  | none => simp
  | some x =>
    have := h x (List.mem_of_getElem? e)
    simpa using this
theorem prod_bd {x y : Int} (hx : 0 ≤ x ∧ x ≤ 1440) (hy : 0 ≤ y ∧ y ≤ 999999999) : 0 ≤ x * y ∧ x * y ≤ 1439999998560 :=
  ⟨Int.mul_nonneg hx.1 hy.1, Int.le_trans (Int.mul_le_mul hx.2 hy.2 hy.1 (by omega)) (by omega)⟩
theorem dotK_bd {t r : List Int} (ht : ∀ x ∈ t, 0 ≤ x ∧ x ≤ 1440) (hr : ∀ x ∈ r, 0 ≤ x ∧ x ≤ 999999999) : ∀ k : Nat, 0 ≤ dotK t r k ∧ dotK t r k ≤ 1439999998560 * k
  | 0 => by simp [dotK]
  | k + 1 => by
    have h1 := dotK_bd ht hr k
    have h2 := prod_bd (at0_bd ht k) (at0_bdR hr k)
    unfold dotK
    constructor
    · omega
    · push_cast
      omega
theorem costK_bd {js : List JobT} {r : List Int} {m : Nat} (ok : JobsOk m js) (hr : ∀ x ∈ r, 0 ≤ x ∧ x ≤ 999999999) (hm : r.length ≤ 8) : ∀ k : Nat, k ≤ js.length → 0 ≤ costK js r k ∧ costK js r k ≤ 11519999988480 * k
  | 0, _ => by simp [costK]
  | k + 1, hk => by
    have h1 := costK_bd ok hr hm k (by omega)
    obtain ⟨j, hj⟩ : ∃ j, js[k]? = some j := ⟨_, List.getElem?_eq_getElem hk⟩
    have h2 := dotK_bd (ok.ok j (List.mem_of_getElem? hj)).tb hr r.length
    unfold costK
    rw [hj]
    simp only [Option.getD_some]
    constructor
    · omega
    · push_cast
      omega
end Go.Proofs
end

section
/- Jobs: Cost of shop and of the reference. -/
namespace Go.Proofs
open Go.RowKit Go.MapKept
set_option maxHeartbeats 16000000
set_option maxRecDepth 1000000
theorem shJobN_ok (js : List JobT) (v : Value) (n : Int) (w : World) (hl : SlJ w v js) (hs : ∀ j ∈ js, j.2.1.length ≤ 1000 ∧ j.2.2.length ≤ 1000) (hx : JobX js n) :
    Calls Try.prog 20 #[v] w fun e w' => e = .returned (.int .i64 n) ∧ Below w.heap.size w w' :=
  (shJobX_ok js v w hl hs).mono fun e w' ⟨k, he, hk, hb⟩ => ⟨by rw [he, hk.same hx], hb⟩
theorem refJobN_ok (js : List JobT) (v : Value) (n : Int) (w : World) (hl : SlJ w v js) (hs : ∀ j ∈ js, j.2.1.length ≤ 1000 ∧ j.2.2.length ≤ 1000) (hx : JobX js n) :
    Calls Try.prog 6 #[v] w fun e w' => e = .returned (.int .i64 n) ∧ Below w.heap.size w w' :=
  (refJobX_ok js v w hl hs).mono fun e w' ⟨k, he, hk, hb⟩ => ⟨by rw [he, hk.same hx], hb⟩
structure CostG (js : List JobT) (r : List Int) : Prop where
  ok : JobsOk (stN js) js
  m : r.length = stN js
  few : r.length ≤ 8
  rb : ∀ x ∈ r, 0 ≤ x ∧ x ≤ 999999999
theorem costG_mk {js : List JobT} {r : List Int} (hx : JobX js 0) (hr : ratesE r (stN js) = 0) : CostG js r := by
  have ok := hx.ok
  rcases ratesE_cases r (stN js) with ⟨h1, h2⟩ | ⟨h1, h2⟩
  · rw [hr] at h2
    cases h2
  · rw [hr] at h2
    obtain ⟨j, hj⟩ : ∃ j, js[0]? = some j := ⟨_, List.getElem?_eq_getElem ok.pos⟩
    have := (ok.ok j (List.mem_of_getElem? hj)).few
    exact ⟨ok, h1, by omega, allE_0 h2.symm⟩
theorem costK_succ {js : List JobT} {r : List Int} {k : Nat} {j : JobT} (h : js[k]? = some j) : costK js r (k + 1) = costK js r k + dotK j.2.1 r r.length := by
  rw [costK, h]
  rfl
theorem wrapC {n : Int} (h : 0 ≤ n ∧ n ≤ 1000000000000000) : wrap64 n = n ∧ IntKind.i64.wrap n = n := ⟨wrap64_small (by omega), wrap_small (by omega)⟩
theorem shCostA_ok (js : List JobT) (v vr : Value) (n : Int) (w : World) (hl : SlJ w v js) (hs : ∀ j ∈ js, j.2.1.length ≤ 1000 ∧ j.2.2.length ≤ 1000) (hx : JobX js n) (hn : n ≠ 0) :
    Calls Try.prog 13 #[v, vr] w fun e w' => e = .returned (.tuple #[.int .i64 0, .int .i64 n]) ∧ Below w.heap.size w w' := by
  have k1 := shJobN_ok js v n w hl hs hx
  have hnz : (n != 0) = true := by simpa using hn
  clear hl hs hx hn
  go_enter Try.func13, Try.ntmps13
  go_wp2_with (go_at_call 20; refine k1.mono ?_; rintro e w1 ⟨rfl, hB⟩)
  go_ret2
  exact ⟨rfl, hB⟩
theorem shCostB_ok (js : List JobT) (r : List Int) (v vr : Value) (w : World) (hl : SlJ w v js) (hs : ∀ j ∈ js, j.2.1.length ≤ 1000 ∧ j.2.2.length ≤ 1000) (hx : JobX js 0) (hr : SlI w vr r) (hrn : r.length ≤ 1000) (hn : ratesE r (stN js) ≠ 0) :
    Calls Try.prog 13 #[v, vr] w fun e w' => e = .returned (.tuple #[.int .i64 0, .int .i64 (ratesE r (stN js))]) ∧ Below w.heap.size w w' := by
  have k1 := shJobN_ok js v 0 w hl hs hx
  have hpos := hx.ok.pos
  obtain ⟨bJ, oJ, cap, rfl, hbJ, hat⟩ := hl.addr hpos
  obtain ⟨⟨nm0, t0, d0⟩, hj0⟩ : ∃ j, js[0]? = some j := ⟨_, List.getElem?_eq_getElem hpos⟩
  obtain ⟨vt0, vd0, -, q1, -, qt, -⟩ := hat 0 _ hj0
  dsimp only at q1 qt
  rw [Nat.zero_mul, Nat.add_zero] at q1
  have hm0 : t0.length = stN js := by unfold stN; rw [hj0]
  have kSt := fun W (h : Below w.heap.size w W) => stations_ok vt0 t0 bJ oJ js.length cap W ((h.cell (p := ⟨bJ, oJ + 1, none⟩) hbJ).trans q1) (qt.below h) hpos
  rw [hm0] at kSt
  have k2 := fun W (h : Below w.heap.size w W) => checkRatesX_ok vr r (stN js) W (hr.below h) hrn
  generalize ratesE r (stN js) = er at k2 hn ⊢
  have hnz : (er != 0) = true := by simpa using hn
  clear hl hs hx hn hat hj0 hm0 q1 qt hr
  go_enter Try.func13, Try.ntmps13
  go_wp2_with (first
    | (go_at_call 20; refine k1.mono ?_; rintro e w1 ⟨rfl, hB⟩)
    | (go_at_call 27; refine (kSt _ hB).mono ?_; rintro e v5 ⟨rfl, hv5⟩; obtain rfl : w1 = v5 := hv5.symm)
    | (go_at_call 38; refine (k2 _ hB).mono ?_; rintro e w2 ⟨rfl, hB2⟩))
  go_ret2
  exact ⟨rfl, hB.trans (hB2.mono hB.size)⟩
theorem shCostC_ok (js : List JobT) (r : List Int) (v vr : Value) (w : World) (hl : SlJ w v js) (hs : ∀ j ∈ js, j.2.1.length ≤ 1000 ∧ j.2.2.length ≤ 1000) (hx : JobX js 0) (hr : SlI w vr r) (hrn : r.length ≤ 1000) (hn : ratesE r (stN js) = 0) :
    Calls Try.prog 13 #[v, vr] w fun e w' => ((999999999 < costK js r js.length ∧ e = .returned (.tuple #[.int .i64 0, .int .i64 4])) ∨ (¬ 999999999 < costK js r js.length ∧ e = .returned (.tuple #[.int .i64 (costK js r js.length), .int .i64 0]))) ∧ Below w.heap.size w w' := by
  have k1 := shJobN_ok js v 0 w hl hs hx
  have G := costG_mk hx hn
  have hpos := hx.ok.pos
  obtain ⟨Ar, cr, rfl⟩ := hr.form
  obtain ⟨bJ, oJ, cap, rfl, hbJ, hat⟩ := hl.addr hpos
  obtain ⟨⟨nm0, t0, d0⟩, hj0⟩ : ∃ j, js[0]? = some j := ⟨_, List.getElem?_eq_getElem hpos⟩
  obtain ⟨vt0, vd0, -, q1, -, qt, -⟩ := hat 0 _ hj0
  dsimp only at q1 qt
  rw [Nat.zero_mul, Nat.add_zero] at q1
  have hm0 : t0.length = stN js := by unfold stN; rw [hj0]
  have kSt := fun W (h : Below w.heap.size w W) => stations_ok vt0 t0 bJ oJ js.length cap W ((h.cell (p := ⟨bJ, oJ + 1, none⟩) hbJ).trans q1) (qt.below h) hpos
  rw [hm0] at kSt
  have k2 := fun W (h : Below w.heap.size w W) => checkRatesX_ok _ r (stN js) W (hr.below h) hrn
  simp only [hn] at k2
  have HG := Lib.hid G
  have HAT := Lib.hid hat
  have hfew := G.ok.few
  clear hl hs hx hn hat hj0 hm0 q1 qt G
  go_enter Try.func13, Try.ntmps13
  go_wp2_with (first
    | (go_at_call 20; refine k1.mono ?_; rintro e w1 ⟨rfl, hB⟩)
    | (go_at_call 27; refine (kSt _ hB).mono ?_; rintro e v5 ⟨rfl, hv5⟩; obtain rfl : w1 = v5 := hv5.symm)
    | (go_at_call 38; refine (k2 _ hB).mono ?_; rintro e w2 ⟨rfl, hB2⟩))
  have hX := hB.trans (hB2.mono hB.size)
  clear hB hB2 k1 kSt k2
  go_loopw [8, 27] (fun c i wr => ∃ k : Nat, k ≤ js.length ∧ i = .int .i64 k ∧ c = .int .i64 (costK js r k) ∧ Below w.heap.size w wr) (fun _ i _ => js.length - (intOf i).toNat)
  case atStart => exact ⟨0, Nat.zero_le _, rfl, rfl, hX⟩
  case round =>
    clear hX
    obtain ⟨k, hk, rfl, rfl, hX⟩ := hrel
    rename World => w3
    have hcb := costK_bd HG.out.ok HG.out.rb HG.out.few k hk
    rcases Nat.lt_or_eq_of_le hk with hkn | rfl
    · obtain ⟨⟨s, tl, dl⟩, hc⟩ : ∃ j, js[k]? = some j := ⟨_, List.getElem?_eq_getElem hkn⟩
      obtain ⟨vt, vd, j0, j1, j2, ht, hd⟩ := HAT.out k _ hc
      have hjo := HG.out.ok.ok _ (List.mem_of_getElem? hc)
      have hsu := costK_succ (r := r) hc
      dsimp only at j0 j1 j2 ht hd hsu
      obtain ⟨At, ct, rfl⟩ := ht.form
      obtain ⟨Ad, cd, rfl⟩ := hd.form
      have r0 := (hX.cell (p := ⟨bJ, oJ + k * 3, none⟩) hbJ).trans j0
      have r1 := (hX.cell (p := ⟨bJ, oJ + k * 3 + 1, none⟩) hbJ).trans j1
      have r2 := (hX.cell (p := ⟨bJ, oJ + k * 3 + 2, none⟩) hbJ).trans j2
      have hi0 : (0 : Int) ≤ k := by omega
      have hi1 : (k : Int) < js.length := by omega
      have hlr : tl.length = r.length := by have h1 := hjo.t; have h2 := HG.out.m; dsimp only at h1; omega
      have HLR := Lib.hid hlr
      have HTB := Lib.hid hjo.tb
      have HXA := Lib.hid (hX.alloc hX.size (.cells #[.string s, .slice At tl.length ct, .slice Ad dl.length cd] 31))
      have HSU := Lib.hid hsu
      have HCB := Lib.hid hcb
      have HK := Lib.hid (show k + 1 ≤ js.length from hkn)
      have HM := Lib.hid (show js.length - (k + 1) < js.length - k by omega)
      have HWK := Lib.hid (wrapsV (show k < 1048576 by omega))
      have hlt3 : bJ < w3.heap.size := Nat.lt_of_lt_of_le hbJ hX.size
      have hne3 : bJ ≠ w3.heap.size := Nat.ne_of_lt hlt3
      clear hc j0 j1 j2 hjo hsu hcb hlr hX
      go_wp2_with fail
      generalize costK js r k = C at HSU HCB ⊢
      go_loopw [8, 34] (fun c i wr => ∃ q : Nat, q ≤ tl.length ∧ i = .int .i64 q ∧ c = .int .i64 (C + dotK tl r q) ∧ Below w.heap.size w wr) (fun _ i _ => tl.length - (intOf i).toNat)
      case atStart => exact ⟨0, Nat.zero_le _, rfl, by simp [dotK], HXA.out⟩
      case round =>
        clear HXA r0 r1 r2
        obtain ⟨q, hq, rfl, rfl, hX⟩ := hrel
        rename World => w4
        have hdb := dotK_bd HTB.out HG.out.rb q
        rcases Nat.lt_or_eq_of_le hq with hqn | rfl
        · obtain ⟨bt, ot, y, rfl, -, hbl, hy, rk⟩ := (ht.below hX).cells hqn
          obtain ⟨br, orr, z, rfl, -, hbl2, hz, rk2⟩ := (hr.below hX).cells (k := q) (by rw [← HLR.out]; exact hqn)
          have hpb := prod_bd (HTB.out y (List.mem_of_getElem? hy)) (HG.out.rb z (List.mem_of_getElem? hz))
          have hst : C + dotK tl r (q + 1) = C + dotK tl r q + y * z := by
            rw [dotK, at0_some hy, at0_some hz]
            omega
          have hj0 : (0 : Int) ≤ q := by omega
          have hj1 : (q : Int) < tl.length := by omega
          have hj2 : (q : Int) < r.length := by have := HLR.out; omega
          have h8 := HG.out.few
          have hq8 : q ≤ 8 := by have := HLR.out; omega
          have HST := Lib.hid hst
          generalize hD : C + dotK tl r q = D at HST ⊢
          have hDb : 0 ≤ D ∧ D ≤ 900000000000000 := by have := HCB.out; omega
          generalize hP : y * z = p at HST hpb
          have HW1 := Lib.hid (wrapC (n := p) (by omega))
          have HW2 := Lib.hid (wrapC (n := D + p) (by omega))
          have HQK := Lib.hid (show q + 1 ≤ tl.length from hqn)
          have HQM := Lib.hid (show tl.length - (q + 1) < tl.length - q by omega)
          have HW3 := Lib.hid (wrapsV (show q < 1048576 by omega))
          have HBX := Lib.hid hX
          clear hdb hst hy hz hpb hDb h8 hq8 hX hD
          obtain ⟨w1a, w1b⟩ := HW1.out
          obtain ⟨w2a, w2b⟩ := HW2.out
          obtain ⟨w3a, w3b⟩ := HW3.out
          go_wp2_with fail
          go_roundw
          case rel => exact ⟨q + 1, HQK.out, by simp, by rw [HST.out], HBX.out⟩
          case measure => exact HQM.out
        · obtain ⟨wk1, wk2⟩ := HWK.out
          have HBX := Lib.hid hX
          clear hX hdb
          go_wp2_with fail
          go_roundw
          case rel => exact ⟨k + 1, HK.out, by simp, by rw [HSU.out, HLR.out], HBX.out⟩
          case measure => exact HM.out
    · clear hcb
      obtain ⟨C, hCe⟩ : ∃ C, C = costK js r js.length := ⟨_, rfl⟩
      rw [← hCe]
      have HCE := Lib.hid hCe
      clear hCe
      by_cases hC : 999999999 < C
      · have hd : decide ((999999999 : Int) < C) = true := decide_eq_true hC
        go_wp2_with fail
        go_ret2
        exact ⟨.inl ⟨by rw [← HCE.out]; exact hC, rfl⟩, hX⟩
      · have hd : decide ((999999999 : Int) < C) = false := decide_eq_false hC
        go_wp2_with fail
        go_ret2
        refine ⟨.inr ⟨by rw [← HCE.out]; exact hC, ?_⟩, hX⟩
        rw [← HCE.out]
        rfl
end Go.Proofs
end
