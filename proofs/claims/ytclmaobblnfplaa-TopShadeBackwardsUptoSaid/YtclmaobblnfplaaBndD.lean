/- Jobs: Bound of shop. -/
import Derived.Test.YtclmaobblnfplaaBndC
namespace Go.Proofs
open Go.RowKit Go.MapKept
set_option maxHeartbeats 16000000
set_option maxRecDepth 1000000
theorem minL_bd {l : List Int} {B : Int} (hp : 0 < l.length) (h : ∀ x ∈ l, 0 ≤ x ∧ x ≤ B) : 0 ≤ minL l ∧ minL l ≤ B := by
  have key : ∀ (l : List Int) (x : Int), (0 ≤ x ∧ x ≤ B) → (∀ y ∈ l, 0 ≤ y ∧ y ≤ B) → 0 ≤ l.foldl min x ∧ l.foldl min x ≤ B := fun l => by
    induction l with
    | nil => exact fun x hx _ => hx
    | cons z l ih =>
      intro x hx hl
      rw [List.foldl_cons]
      refine ih _ ?_ fun y hy => hl y (by simp [hy])
      have := hl z (by simp)
      omega
  match l, hp with
  | x :: l, _ => exact key l x (h x (by simp)) fun y hy => h y (by simp [hy])
theorem maxL_bd {l : List Int} {B : Int} (hp : 0 < l.length) (h : ∀ x ∈ l, 0 ≤ x ∧ x ≤ B) : 0 ≤ maxL l ∧ maxL l ≤ B := by
  have key : ∀ (l : List Int) (x : Int), (0 ≤ x ∧ x ≤ B) → (∀ y ∈ l, 0 ≤ y ∧ y ≤ B) → 0 ≤ l.foldl max x ∧ l.foldl max x ≤ B := fun l => by
    induction l with
    | nil => exact fun x hx _ => hx
    | cons z l ih =>
      intro x hx hl
      rw [List.foldl_cons]
      refine ih _ ?_ fun y hy => hl y (by simp [hy])
      have := hl z (by simp)
      omega
  match l, hp with
  | x :: l, _ => exact key l x (h x (by simp)) fun y hy => h y (by simp [hy])
theorem befJ_bd {m : Nat} {j : JobT} (hj : JobOk m j) (s : Nat) : (0 ≤ befJ j s ∧ befJ j s ≤ 23040) ∧ (0 ≤ aftJ j s ∧ aftJ j s ≤ 23040) ∧ (0 ≤ allJ j ∧ allJ j ≤ 23040) ∧ (0 ≤ at0 j.2.1 s ∧ at0 j.2.1 s ≤ 1440) := by
  obtain ⟨-, -, l1, l2⟩ := job_sum hj
  have a1 := sum_small (l := j.2.1.take s) (fun x hx => hj.tb x (List.mem_of_mem_take hx)) (by rw [List.length_take]; omega)
  have a2 := sum_small (l := j.2.2.take s) (fun x hx => hj.db x (List.mem_of_mem_take hx)) (by rw [List.length_take]; omega)
  have a3 := sum_small (l := j.2.1.drop (s + 1)) (fun x hx => hj.tb x (List.mem_of_mem_drop hx)) (by rw [List.length_drop]; omega)
  have a4 := sum_small (l := j.2.2.drop s) (fun x hx => hj.db x (List.mem_of_mem_drop hx)) (by rw [List.length_drop]; omega)
  have a5 := sum_small (l := j.2.1) (fun x hx => hj.tb x hx) l1
  have a6 := sum_small (l := j.2.2) (fun x hx => hj.db x hx) l2
  unfold befJ aftJ allJ
  exact ⟨by omega, by omega, by omega, at0_bd hj.tb s⟩
theorem map_bd {js : List JobT} {f : JobT → Int} {B : Int} (h : ∀ j ∈ js, 0 ≤ f j ∧ f j ≤ B) : ∀ x ∈ js.map f, 0 ≤ x ∧ x ≤ B := fun x hx => by
  obtain ⟨j, hj, rfl⟩ := List.mem_map.1 hx
  exact h j hj
theorem atS_bd {js : List JobT} {m : Nat} (ok : JobsOk m js) (s : Nat) : 0 ≤ atS js s ∧ atS js s ≤ 46080 := by
  have h := sumA_bd (l := js.map fun j => at0 j.2.1 s) (map_bd fun j hj => (befJ_bd (ok.ok j hj) s).2.2.2)
  have := ok.few
  rw [List.length_map] at h
  unfold atS
  omega
theorem lowS_bd {js : List JobT} {m : Nat} (ok : JobsOk m js) (s : Nat) : (0 ≤ minL (js.map fun j => befJ j s) ∧ minL (js.map fun j => befJ j s) ≤ 23040) ∧ (0 ≤ minL (js.map fun j => aftJ j s) ∧ minL (js.map fun j => aftJ j s) ≤ 23040) := by
  have hp : ∀ f : JobT → Int, 0 < (js.map f).length := fun f => by rw [List.length_map]; exact ok.pos
  exact ⟨minL_bd (hp _) (map_bd fun j hj => (befJ_bd (ok.ok j hj) s).1), minL_bd (hp _) (map_bd fun j hj => (befJ_bd (ok.ok j hj) s).2.1)⟩
theorem bndK_bd {js : List JobT} {m : Nat} (ok : JobsOk m js) : ∀ k, 0 ≤ bndK js k ∧ bndK js k ≤ 92160
  | 0 => by
    have h := maxL_bd (l := js.map allJ) (by rw [List.length_map]; exact ok.pos) (map_bd fun j hj => (befJ_bd (ok.ok j hj) 0).2.2.1)
    show 0 ≤ maxL (js.map allJ) ∧ maxL (js.map allJ) ≤ 92160
    omega
  | k + 1 => by
    have h1 := bndK_bd ok k
    have h2 := lowS_bd ok k
    have h3 := atS_bd ok k
    rw [bndK_succ]
    unfold lowS
    omega
theorem shBndA_ok (js : List JobT) (v : Value) (n : Int) (w : World) (hl : SlJ w v js) (hs : ∀ j ∈ js, j.2.1.length ≤ 1000 ∧ j.2.2.length ≤ 1000) (hx : JobX js n) (hn : n ≠ 0) :
    Calls Try.prog 12 #[v] w fun e w' => e = .returned (.tuple #[.int .i64 0, .int .i64 n]) ∧ Below w.heap.size w w' := by
  have k1 := shJobN_ok js v n w hl hs hx
  have hnz : (n != 0) = true := by simpa using hn
  clear hl hs hx hn
  go_enter Try.func12, Try.ntmps12
  go_wp2_with (go_at_call 20; refine k1.mono ?_; rintro e w1 ⟨rfl, hB⟩)
  go_ret2
  exact ⟨rfl, hB⟩
theorem shBound_ok (js : List JobT) (v : Value) (w : World) (hl : SlJC w v js) (hs : ∀ j ∈ js, j.2.1.length ≤ 1000 ∧ j.2.2.length ≤ 1000) (hx : JobX js 0) :
    Calls Try.prog 12 #[v] w fun e w' => e = .returned (.tuple #[.int .i64 (bndK js (stN js)), .int .i64 0]) ∧ Below w.heap.size w w' := by
  have k1 := shJobN_ok js v 0 w hl.1 hs hx
  have ok := hx.ok
  have hpos := ok.pos
  have hfew := ok.few
  obtain ⟨m, hm⟩ : ∃ m, m = stN js := ⟨_, rfl⟩
  rw [← hm] at ok ⊢
  have hm8 : 0 < m ∧ m ≤ 8 := by
    obtain ⟨j0, hj0⟩ : ∃ j, js[0]? = some j := ⟨_, List.getElem?_eq_getElem hpos⟩
    have hjo0 := ok.ok _ (List.mem_of_getElem? hj0)
    have h1 := hjo0.d
    have h2 := hjo0.few
    omega
  obtain ⟨bJ, oJ, cap, rfl, hbJ, hat⟩ := hl.1.addr hpos
  obtain ⟨⟨nm0, t0, d0⟩, hj0⟩ : ∃ j, js[0]? = some j := ⟨_, List.getElem?_eq_getElem hpos⟩
  obtain ⟨vt0, vd0, -, q1, -, qt, -⟩ := hat 0 _ hj0
  dsimp only at q1 qt
  rw [Nat.zero_mul, Nat.add_zero] at q1
  have hm0 : t0.length = m := by rw [hm]; unfold stN; rw [hj0]
  have kSt := fun W (h : Below w.heap.size w W) => stations_ok vt0 t0 bJ oJ js.length cap W ((h.cell (p := ⟨bJ, oJ + 1, none⟩) hbJ).trans q1) (qt.below h) hpos
  rw [hm0] at kSt
  have kA := fun W (h : Below w.heap.size w W) => lsAll_ok js m _ W (hl.below h) ok
  have kF : ∀ (f : JobT → Int) (W : World) (u : Value), SlI W u (js.map f) → (∀ j ∈ js, 0 ≤ f j ∧ f j ≤ 1000000) → Calls Try.prog 31 #[u] W fun e w' => e = .returned (.int .i64 (sumA (js.map f))) ∧ w' = W := fun f W u h hb => shSum_ok _ u W h (map_bd hb) (by rw [List.length_map]; omega)
  have kMin : ∀ (f : JobT → Int) (W : World) (u : Value), SlI W u (js.map f) → Calls Try.prog 33 #[u] W fun e w' => e = .returned (.int .i64 (minL (js.map f))) ∧ w' = W := fun f W u h => minI_ok _ u W h (by rw [List.length_map]; exact hpos) (by rw [List.length_map]; omega)
  have kMax : ∀ (f : JobT → Int) (W : World) (u : Value), SlI W u (js.map f) → Calls Try.prog 28 #[u] W fun e w' => e = .returned (.int .i64 (maxL (js.map f))) ∧ w' = W := fun f W u h => maxI_ok _ u W h (by rw [List.length_map]; exact hpos) (by rw [List.length_map]; omega)
  have HOK := Lib.hid ok
  have HL := Lib.hid hl
  clear hs hx hat hj0 q1 qt hm0 hm hl
  go_enter Try.func12, Try.ntmps12
  go_wp2_with fail
  refine k1.mono ?_
  rintro e w1 ⟨rfl, hX⟩
  go_wp2_with fail
  refine (kA _ hX).mono ?_
  rintro e w2 ⟨⟨u, rfl, hu⟩, hB⟩
  replace hX := hX.trans (hB.mono hX.size)
  clear k1 kA hB
  go_wp2_with fail
  refine (kMax _ _ _ hu).mono ?_
  rintro e w3 ⟨rfl, hv⟩
  obtain rfl : w2 = w3 := hv.symm
  clear hu
  have hb0 : maxL (js.map fun j => allJ j) = bndK js 0 := rfl
  rw [hb0]
  clear hb0 kMax
  go_wp2_with fail
  refine (kSt _ hX).mono ?_
  rintro e w3 ⟨rfl, hv⟩
  obtain rfl : w2 = w3 := hv.symm
  clear kSt
  go_wp2_with fail
  go_loopw [5, 20] (fun bv i wr => ∃ k : Nat, k ≤ m ∧ i = .int .i64 k ∧ bv = .int .i64 (bndK js k) ∧ Below w.heap.size w wr) (fun _ i _ => m - (intOf i).toNat)
  case atStart => exact ⟨0, Nat.zero_le _, rfl, rfl, hX⟩
  case round =>
    clear hX
    obtain ⟨k, hk, rfl, rfl, hX⟩ := hrel
    rename World => w4
    rcases Nat.lt_or_eq_of_le hk with hkn | rfl
    · obtain ⟨W1, hW⟩ : ∃ W1, W1 = w4.alloc (.cells #[.int .i64 k] 3) := ⟨_, rfl⟩
      have hB1 : Below w4.heap.size w4 W1 := by subst hW; exact (Below.refl _ _).alloc (Nat.le_refl _) _
      have hc1 : W1.cell? ⟨w4.heap.size, 0, none⟩ = some (.int .i64 k) := by subst hW; go_simp
      have hcl : w4.heap.size < W1.heap.size := by subst hW; simp
      have hX1 := hX.trans (hB1.mono hX.size)
      have kk : ∀ V, Below W1.heap.size W1 V → Below w.heap.size w V ∧ V.cell? ⟨w4.heap.size, 0, none⟩ = some (.int .i64 k) ∧ w4.heap.size < V.heap.size := fun V h => ⟨hX1.trans (h.mono hX1.size), (h.cell (p := ⟨w4.heap.size, 0, none⟩) hcl).trans hc1, Nat.lt_of_lt_of_le hcl h.size⟩
      have kB1 := fun V (h : Below W1.heap.size W1 V) => lsAt_ok js m k w4.heap.size _ V (HL.out.below (kk V h).1) HOK.out hkn (kk V h).2.1 (kk V h).2.2
      have kB2 := fun V (h : Below W1.heap.size W1 V) => lsBef_ok js m k w4.heap.size _ V (HL.out.below (kk V h).1) HOK.out hkn (kk V h).2.1 (kk V h).2.2
      have kB3 := fun V (h : Below W1.heap.size W1 V) => lsAft_ok js m k w4.heap.size _ V (HL.out.below (kk V h).1) HOK.out hkn (kk V h).2.1 (kk V h).2.2
      have hbs : ∀ j ∈ js, 0 ≤ at0 j.2.1 k ∧ at0 j.2.1 k ≤ 1000000 := fun j hj => by have := (befJ_bd (HOK.out.ok j hj) k).2.2.2; omega
      have HBS := Lib.hid hbs
      have hlo := lowS_bd HOK.out k
      have hat := atS_bd HOK.out k
      have hbk := bndK_bd HOK.out k
      have hsu := bndK_succ js k
      unfold lowS at hsu
      have HS := Lib.hid (And.intro hlo (And.intro hat (And.intro hbk hsu)))
      have HK := Lib.hid (show k + 1 ≤ m from hkn)
      have HM := Lib.hid (show m - (k + 1) < m - k by omega)
      have HWK := Lib.hid (wrapsV (show k < 1048576 by omega))
      have hY := Below.refl W1.heap.size W1
      clear hlo hat hbk hsu hbs hB1 hc1 hcl hX1
      go_wp2_with fail
      rw [← hW]
      clear hW
      refine (kB1 _ hY).mono ?_
      rintro e v1 ⟨⟨u1, rfl, hu1⟩, hB⟩
      replace hY := hY.trans (hB.mono hY.size)
      clear hB kB1
      go_wp2_with fail
      refine (kF _ _ _ hu1 HBS.out).mono ?_
      rintro e v2 ⟨rfl, hv⟩
      obtain rfl : v1 = v2 := hv.symm
      clear hu1
      have e1 : sumA (js.map fun j => at0 j.2.1 k) = atS js k := rfl
      rw [e1]
      clear e1
      go_wp2_with fail
      refine (kB2 _ hY).mono ?_
      rintro e v2 ⟨⟨u1, rfl, hu1⟩, hB⟩
      replace hY := hY.trans (hB.mono hY.size)
      clear hB kB2
      go_wp2_with fail
      refine (kMin _ _ _ hu1).mono ?_
      rintro e v3 ⟨rfl, hv⟩
      obtain rfl : v2 = v3 := hv.symm
      clear hu1
      go_wp2_with fail
      refine (kB3 _ hY).mono ?_
      rintro e v3 ⟨⟨u1, rfl, hu1⟩, hB⟩
      replace hY := hY.trans (hB.mono hY.size)
      clear hB kB3
      go_wp2_with fail
      refine (kMin _ _ _ hu1).mono ?_
      rintro e v4 ⟨rfl, hv⟩
      obtain rfl : v3 = v4 := hv.symm
      clear hu1
      have hXE := (kk _ hY).1
      obtain ⟨x1, hx1⟩ : ∃ x, x = minL (js.map fun j => befJ j k) := ⟨_, rfl⟩
      obtain ⟨x2, hx2⟩ : ∃ x, x = minL (js.map fun j => aftJ j k) := ⟨_, rfl⟩
      obtain ⟨x3, hx3⟩ : ∃ x, x = atS js k := ⟨_, rfl⟩
      obtain ⟨x4, hx4⟩ : ∃ x, x = bndK js k := ⟨_, rfl⟩
      obtain ⟨hlo, hat, hbk, hsu⟩ := HS.out
      rw [← hx1, ← hx2] at hlo
      rw [← hx3] at hat
      rw [← hx4] at hbk
      rw [← hx1, ← hx2, ← hx3, ← hx4] at hsu
      rw [← hx1, ← hx2, ← hx3, ← hx4]
      have HW2 := Lib.hid (wrapC2 (n := x1 + x3) (by omega))
      have HW3 := Lib.hid (wrapC2 (n := x1 + x3 + x2) (by omega))
      have HSU := Lib.hid hsu
      obtain ⟨wa1, wa2⟩ := HW2.out
      obtain ⟨wb1, wb2⟩ := HW3.out
      obtain ⟨wk1, wk2⟩ := HWK.out
      clear hx1 hx2 hx3 hx4 hlo hat hbk hsu HS hY kk
      rcases Int.lt_or_le x4 (x1 + x3 + x2) with hlt | hlt
      · have HV := Lib.hid (show max x4 (x1 + x3 + x2) = x1 + x3 + x2 from by omega)
        go_wp2_with fail
        go_roundw
        case rel => exact ⟨k + 1, HK.out, by simp, by rw [HSU.out, HV.out], hXE⟩
        case measure => exact HM.out
      · have HV := Lib.hid (show max x4 (x1 + x3 + x2) = x4 from by omega)
        go_wp2_with fail
        go_roundw
        case rel => exact ⟨k + 1, HK.out, by simp, by rw [HSU.out, HV.out], hXE⟩
        case measure => exact HM.out
    · go_wp2_with fail
      go_ret2
      exact ⟨rfl, hX⟩
end Go.Proofs
