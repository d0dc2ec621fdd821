import Derived.Test.YtokfniicbeemdaaGreatDoorJbK
import Derived.Test.YtokfniicbeemdaaGreatDoorJbZ
import Derived.Test.YtokfniicbeemdaaGreatDoorOrdL
section
/- Jobs: Cost of the reference. -/
namespace Go.Proofs
open Go.RowKit Go.MapKept
set_option maxHeartbeats 16000000
set_option maxRecDepth 1000000
theorem refCost_ok (js : List JobT) (r : List Int) (v vr : Value) (w : World) (hl : SlJ w v js) (hr : SlI w vr r) (G : CostG js r) :
    Calls Tryz.prog 39 #[v, vr] w fun e w' => e = .returned (.int .i64 (costK js r js.length)) ∧ Below w.heap.size w w' := by
  have hpos := G.ok.pos
  obtain ⟨Ar, cr, rfl⟩ := hr.form
  obtain ⟨bJ, oJ, cap, rfl, hbJ, hat⟩ := hl.addr hpos
  have HG := Lib.hid G
  have HAT := Lib.hid hat
  have hfew := G.ok.few
  have hB0 := Below.refl w.heap.size w
  clear hl hat G
  go_enter Tryz.func39, Tryz.ntmps39
  go_wp2_with fail
  go_loopw [5, 6] (fun c i wr => ∃ k : Nat, k ≤ js.length ∧ i = .int .i64 k ∧ c = .int .i64 (costK js r k) ∧ Below w.heap.size w wr) (fun _ i _ => js.length - (intOf i).toNat)
  case atStart => exact ⟨0, Nat.zero_le _, rfl, rfl, hB0⟩
  case round =>
    clear hB0
    obtain ⟨k, hk, rfl, rfl, hX⟩ := hrel
    rename World => w3
    have hcb := costK_bd HG.out.ok HG.out.rb HG.out.few k hk
    rcases Nat.lt_or_eq_of_le hk with hkn | rfl
    · obtain ⟨⟨s, tl, dl⟩, hc⟩ : ∃ j, js[k]? = some j := ⟨_, List.getElem?_eq_getElem hkn⟩
      obtain ⟨vt, vd, j0, j1, j2, ht, hd⟩ := HAT.out k _ hc
      have hjo := HG.out.ok.ok _ (List.mem_of_getElem? hc)
      have hsu := costK_succ (r := r) hc
      dsimp only at j0 j1 j2 ht hd hsu
      obtain ⟨At, ct, rfl⟩ := ht.form
      have hi0 : (0 : Int) ≤ k := by omega
      have hi1 : (k : Int) < js.length := by omega
      have hlr : tl.length = r.length := by have h1 := hjo.t; have h2 := HG.out.m; dsimp only at h1; omega
      have HLR := Lib.hid hlr
      have HTB := Lib.hid hjo.tb
      have HXA := Lib.hid hX
      have HSU := Lib.hid hsu
      have HCB := Lib.hid hcb
      have HK := Lib.hid (show k + 1 ≤ js.length from hkn)
      have HM := Lib.hid (show js.length - (k + 1) < js.length - k by omega)
      have HWK := Lib.hid (wrapsV (show k < 1048576 by omega))
      have HJ1 := Lib.hid j1
      clear hc j0 j1 j2 hjo hsu hcb hlr hX
      go_wp2_with fail
      generalize costK js r k = C at HSU HCB ⊢
      go_loopw [5, 7] (fun c i wr => ∃ q : Nat, q ≤ r.length ∧ i = .int .i64 q ∧ c = .int .i64 (C + dotK tl r q) ∧ Below w.heap.size w wr) (fun _ i _ => r.length - (intOf i).toNat)
      case atStart => exact ⟨0, Nat.zero_le _, rfl, by simp [dotK], HXA.out⟩
      case round =>
        clear HXA
        obtain ⟨q, hq, rfl, rfl, hX⟩ := hrel
        rename World => w4
        have hdb := dotK_bd HTB.out HG.out.rb q
        rcases Nat.lt_or_eq_of_le hq with hqn | rfl
        · obtain ⟨bt, ot, y, rfl, -, hbl, hy, rk⟩ := (ht.below hX).cells (k := q) (by rw [HLR.out]; exact hqn)
          obtain ⟨br, orr, z, rfl, -, hbl2, hz, rk2⟩ := (hr.below hX).cells hqn
          have r1 := (hX.cell (p := ⟨bJ, oJ + k * 3 + 1, none⟩) hbJ).trans HJ1.out
          have hpb := prod_bd (HTB.out y (List.mem_of_getElem? hy)) (HG.out.rb z (List.mem_of_getElem? hz))
          have hst : C + dotK tl r (q + 1) = C + dotK tl r q + y * z := by
            rw [dotK, at0_some hy, at0_some hz]
            omega
          have hj0 : (0 : Int) ≤ q := by omega
          have hj1 : (q : Int) < r.length := by omega
          have hj2 : (q : Int) < tl.length := by have := HLR.out; omega
          have h8 := HG.out.few
          have hq8 : q ≤ 8 := by omega
          have HST := Lib.hid hst
          generalize hD : C + dotK tl r q = D at HST ⊢
          have hDb : 0 ≤ D ∧ D ≤ 900000000000000 := by have := HCB.out; omega
          generalize hP : y * z = p at HST hpb
          have HW1 := Lib.hid (wrapC (n := p) (by omega))
          have HW2 := Lib.hid (wrapC (n := D + p) (by omega))
          have HQK := Lib.hid (show q + 1 ≤ r.length from hqn)
          have HQM := Lib.hid (show r.length - (q + 1) < r.length - q by omega)
          have HW3 := Lib.hid (wrapsV (show q < 1048576 by omega))
          have HBX := Lib.hid (below_drewN hX)
          clear hdb hst hy hz hpb hDb h8 hq8 hX hD
          obtain ⟨w1a, w1b⟩ := HW1.out
          obtain ⟨w2a, w2b⟩ := HW2.out
          obtain ⟨w3a, w3b⟩ := HW3.out
          go_wp2_with fail
          go_quiet (fail)
          go_wp2_with fail
          go_roundw
          case rel => exact ⟨q + 1, HQK.out, by simp, by rw [HST.out], HBX.out _⟩
          case measure => exact HQM.out
        · obtain ⟨wk1, wk2⟩ := HWK.out
          have HBX := Lib.hid hX
          clear hX hdb
          go_wp2_with fail
          go_roundw
          case rel => exact ⟨k + 1, HK.out, by simp, by rw [HSU.out], HBX.out⟩
          case measure => exact HM.out
    · obtain ⟨C, hCe⟩ : ∃ C, C = costK js r js.length := ⟨_, rfl⟩
      rw [← hCe]
      have HCE := Lib.hid hCe
      clear hCe hcb
      go_wp2_with fail
      go_ret
      refine ⟨?_, hX⟩
      rw [← HCE.out]
      rfl
end Go.Proofs
end

section
/- Laws of the jobs: the first of some errors, an error if a condition holds, a number with an error; an error of jobs there is. -/
namespace Go.Proofs
open Go.RowKit Go.MapKept
set_option maxHeartbeats 16000000
set_option maxRecDepth 1000000
theorem scanJ_ex {α : Type} (l : List α) (E : Nat → α → Int) : ∀ k, PreE l E k ∨ ∃ e, ScanE l E e
  | 0 => .inl fun j s h => absurd h (Nat.not_lt_zero j)
  | k + 1 => by
    rcases scanJ_ex l E k with h | h
    · cases hk : l[k]? with
      | none =>
        refine .inl fun j s hj hs => ?_
        rcases Nat.lt_or_eq_of_le (Nat.le_of_lt_succ hj) with h2 | rfl
        · exact h j s h2 hs
        · rw [hk] at hs; cases hs
      | some t =>
        by_cases he : E k t = 0
        · refine .inl fun j s hj hs => ?_
          rcases Nat.lt_or_eq_of_le (Nat.le_of_lt_succ hj) with h2 | rfl
          · exact h j s h2 hs
          · obtain rfl := Option.some.inj (hk.symm.trans hs)
            exact he
        · exact .inr ⟨_, h.bad hk he⟩
    · exact .inr h
theorem jobX_ex (js : List JobT) : ∃ n, JobX js n := by
  by_cases h0 : js.length = 0
  · exact ⟨12, .inl ⟨h0, rfl⟩⟩
  · by_cases h1 : 32 < js.length
    · exact ⟨5, .inr ⟨by omega, .inl ⟨h1, rfl⟩⟩⟩
    · rcases scanJ_ex js (jobE js) js.length with h | ⟨e, h⟩
      · exact ⟨0, .inr ⟨by omega, .inr ⟨by omega, h.done (Nat.le_refl _)⟩⟩⟩
      · exact ⟨e, .inr ⟨by omega, .inr ⟨by omega, h⟩⟩⟩
theorem StartsX.zero {js : List JobT} {S : List (List Int)} {c e : Int} (h : StartsX js S c e) (he : e ≠ 0) : c = 0 := by
  rcases h with ⟨-, h, -⟩ | ⟨-, ⟨-, h, -⟩ | ⟨-, ⟨-, h, -⟩ | ⟨-, -, h⟩⟩⟩
  · exact h
  · exact h
  · exact h
  · exact absurd h he
theorem shStartsA_ok (js : List JobT) (v vs : Value) (n : Int) (w : World) (hl : SlJ w v js) (hs : ∀ j ∈ js, j.2.1.length ≤ 1000 ∧ j.2.2.length ≤ 1000) (hx : JobX js n) (hn : n ≠ 0) :
    Calls Tryz.prog 35 #[v, vs] w fun e w' => e = .returned (.tuple #[.int .i64 0, .int .i64 n]) ∧ Below w.heap.size w w' := by
  have k1 := shJobN_ok js v n w hl hs hx
  have hnz : (n != 0) = true := by simpa using hn
  clear hl hs hx hn
  go_enter Tryz.func35, Tryz.ntmps35
  go_wp2_with (go_at_call 33; refine k1.mono ?_; rintro e w1 ⟨rfl, hB⟩)
  go_ret2
  exact ⟨rfl, hB⟩
theorem lawWhenJ_ok (b : Bool) (n : Int) (w : World) : Calls Tryz.prog 16 #[.bool b, .int .i64 n] w fun e w' => e = .returned (.int .i64 (if b then n else 0)) ∧ w' = w := by
  cases b
  · go_enter Tryz.func16, Tryz.ntmps16
    go_wp2
    go_ret
    exact ⟨rfl, rfl⟩
  · go_enter Tryz.func16, Tryz.ntmps16
    go_wp2
    go_ret
    exact ⟨rfl, rfl⟩
theorem lawIntJ_ok (a e b : Int) (h0 : e = 0 → a = b) (h1 : e ≠ 0 → a = 0) (w : World) : Calls Tryz.prog 21 #[.int .i64 a, .int .i64 e, .int .i64 b, .int .i64 e] w fun x w' => x = .returned (.bool true) ∧ w' = w := by
  by_cases he : e = 0
  · obtain rfl := h0 he
    subst he
    clear h0 h1
    go_enter Tryz.func21, Tryz.ntmps21
    go_wp2
    all_goals (go_ret; exact ⟨rfl, rfl⟩)
  · obtain rfl := h1 he
    clear h0 h1
    have h1 : (e == 0) = false := by simpa using he
    have h2 : (e != 0) = true := by simpa using he
    clear he
    go_enter Tryz.func21, Tryz.ntmps21
    go_wp2
    all_goals (go_ret; exact ⟨rfl, rfl⟩)
theorem lawFirst2J (a b : Int) (blk cap : Nat) (w : World) (h0 : w.cell? ⟨blk, 0, none⟩ = some (.int .i64 a)) (h1 : w.cell? ⟨blk, 1, none⟩ = some (.int .i64 b)) :
    Calls Tryz.prog 15 #[.slice (some ⟨blk, 0, none⟩) 2 cap] w fun e w' => e = .returned (.int .i64 (or3 a b 0)) ∧ w' = w := by
  go_enter Tryz.func15, Tryz.ntmps15
  go_wp2
  refine wp_loop_rounds 3 ?_
  rw [rounds_succ]
  go_wp2
  all_goals (try (rw [rounds_succ]; go_wp2))
  all_goals (try (rw [rounds_succ]; go_wp2))
  all_goals go_ret
  all_goals (refine ⟨?_, rfl⟩; unfold or3; simp_all)
end Go.Proofs
end

section
/- Jobs: Best of the reference. -/
namespace Go.Proofs
open Go.RowKit Go.MapKept
set_option maxHeartbeats 16000000
set_option maxRecDepth 1000000
theorem pick_take {E : List Nat → Int} {l : List (List Nat)} {o p : List Nat} {k : Nat} (h : l[k]? = some p) : pickP E (l.take (k + 1)) o = if E p < E (pickP E (l.take k) o) then p else pickP E (l.take k) o := by
  unfold pickP
  rw [List.take_add_one, h]
  simp
theorem pick_ord {n : Nat} {E : List Nat → Int} {o : List Nat} (ho : OrdN n o) (k : Nat) : OrdN n (pickP E ((ordP n n []).take k) o) := by
  rcases pick_mem E ((ordP n n []).take k) o with h | h
  · rw [h]; exact ho
  · exact ordP_ord (List.mem_of_mem_take h)
theorem refStEnd_ok (js : List JobT) (p : List Nat) (m : Nat) (v vs : Value) (w : World) (hl : SlJ w v js) (ok : JobsOk m js) (hm : 0 < m) (hS : SlLL w vs (schP js m p)) (hp : OrdN js.length p) :
    Calls Tryz.prog 85 #[v, vs] w fun e w' => e = .returned (.int .i64 (endP js m p)) ∧ Below w.heap.size w w' := by
  have h := refEnd_ok js (schP js m p) m v vs w hl hS ok (schK_len ..) (fun x hx => by
    obtain ⟨h1, h2⟩ := sch_num ok.ok ok.few hp x hx
    exact ⟨h1, fun y hy => by have := h2 y hy; omega⟩)
  rw [sch_end hm ok.ok ok.pos hp] at h
  exact h
theorem refBest2_ok (js : List JobT) (m : Nat) (v : Value) (w : World) (hl : SlJ w v js) (ok : JobsOk m js) (hmm : stN js = m) (hm : 0 < m) (h5 : js.length ≤ 5) (o : List Nat) (ho : (ordP js.length js.length [])[0]? = some o) :
    Calls Tryz.prog 32 #[v] w fun e w' => (∃ u, e = .returned u ∧ SlI w' u (ints (pickP (endP js m) (ordP js.length js.length []) o))) ∧ Below w.heap.size w w' := by
  have hpos := ok.pos
  obtain ⟨bJ, oJ, cap, rfl, hbJ, -⟩ := hl.addr hpos
  have kO := refOrders_ok js.length h5 hpos w
  have hoo := ordP_ord (List.mem_of_getElem? ho)
  have hlen := ordP_len js.length h5 js.length []
  have hle : 5 ^ js.length ≤ 3125 := Nat.pow_le_pow_right (n := 5) (by omega) h5
  have hlen2 : (ordP js.length js.length []).length ≤ 3125 := Nat.le_trans hlen hle
  obtain ⟨AL, hAL⟩ : ∃ AL, AL = ordP js.length js.length [] := ⟨_, rfl⟩
  have hord : ∀ p ∈ AL, OrdN js.length p := fun p hp => by rw [hAL] at hp; exact ordP_ord hp
  have hpk : ∀ k, OrdN js.length (pickP (endP js m) (AL.take k) o) := fun k => by rw [hAL]; exact pick_ord hoo k
  rw [← hAL] at kO ho hlen2 ⊢
  have hap : 0 < AL.length := (List.getElem?_eq_some_iff.1 ho).1
  have hml : (AL.map ints).length = AL.length := List.length_map _
  have HJ := Lib.hid hl
  have HOK := Lib.hid ok
  have HO := Lib.hid ho
  have HORD := Lib.hid hord
  have HPK := Lib.hid hpk
  have HAP := Lib.hid hap
  have HLEN := Lib.hid hlen2
  have HML := Lib.hid hml
  clear hl hlen hle hlen2 hAL hord hpk ho hoo hap hml
  go_enter Tryz.func32, Tryz.ntmps32
  go_wp2_with fail
  refine kO.mono ?_
  rintro e w1 ⟨⟨u, rfl, hu⟩, hX⟩
  clear kO
  obtain ⟨A, cA, rfl⟩ := hu.form
  obtain ⟨bA, oA, x0, Ax, cx, rfl, hbA, hx0, r0, hxs0⟩ := hu.cells (k := 0) (by rw [HML.out]; exact HAP.out)
  have hx0e : x0 = ints o := by
    rw [List.getElem?_map, HO.out] at hx0
    exact (Option.some.inj hx0).symm
  subst hx0e
  rw [HML.out] at hu ⊢
  rw [Nat.add_zero] at r0
  have hi0 : (0 : Int) < AL.length := by have := HAP.out; omega
  have HU := Lib.hid hu
  have hs0 : SlI w1 (.slice Ax (ints o).length cx) (ints (pickP (endP js m) (AL.take 0) o)) := hxs0
  have hY := Below.refl w1.heap.size w1
  clear hu hx0 hxs0
  go_wp2_with fail
  go_loopw [4, 5] (fun ov i wr => ∃ k : Nat, k ≤ AL.length ∧ i = .int .i64 k ∧ SlI wr ov (ints (pickP (endP js m) (AL.take k) o)) ∧ Below w1.heap.size w1 wr) (fun _ i _ => AL.length - (intOf i).toNat)
  case atStart => exact ⟨0, Nat.zero_le _, rfl, hs0, hY⟩
  case round =>
    clear hs0 hY
    obtain ⟨k, hk, rfl, hs, hY⟩ := hrel
    rename World => w4
    clear r0
    rcases Nat.lt_or_eq_of_le hk with hkn | rfl
    · obtain ⟨bB, oB, x, Ax2, cx2, e1, hbB, hx, rx, hxs⟩ := (HU.out.below hY).cells (k := k) (by rw [HML.out]; exact hkn)
      injection e1 with e1
      injection e1 with e1 e2
      subst e1 e2
      obtain ⟨p, hp⟩ : ∃ p, AL[k]? = some p := ⟨_, List.getElem?_eq_getElem hkn⟩
      have hxe : x = ints p := by
        rw [List.getElem?_map, hp] at hx
        exact (Option.some.inj hx).symm
      subst hxe
      have hpo := HORD.out p (List.mem_of_getElem? hp)
      have hqo := HPK.out k
      have hst := pick_take (E := endP js m) (o := o) hp
      obtain ⟨q, hq⟩ : ∃ q, q = pickP (endP js m) (AL.take k) o := ⟨_, rfl⟩
      rw [← hq] at hs hst hqo
      obtain ⟨Aq, cq, rfl⟩ := hs.form
      have hXY : ∀ V, Below w4.heap.size w4 V → Below w.heap.size w V := fun V h => (hX.trans (hY.mono hX.size)).trans (h.mono (hX.trans (hY.mono hX.size)).size)
      have kS1 := fun V (h : Below w4.heap.size w4 V) => refSts_ok js p m _ _ V (HJ.out.below (hXY V h)) HOK.out hmm (hxs.below h) hpo
      have kS2 := fun V (h : Below w4.heap.size w4 V) => refSts_ok js q m _ _ V (HJ.out.below (hXY V h)) HOK.out hmm (hs.below h) hqo
      have kE1 := fun V u (h : Below w4.heap.size w4 V) (hS : SlLL V u (schP js m p)) => refStEnd_ok js p m _ u V (HJ.out.below (hXY V h)) HOK.out hm hS hpo
      have kE2 := fun V u (h : Below w4.heap.size w4 V) (hS : SlLL V u (schP js m q)) => refStEnd_ok js q m _ u V (HJ.out.below (hXY V h)) HOK.out hm hS hqo
      obtain ⟨e1, he1⟩ : ∃ e1, e1 = endP js m p := ⟨_, rfl⟩
      obtain ⟨e2, he2⟩ : ∃ e2, e2 = endP js m q := ⟨_, rfl⟩
      rw [← he1] at kE1 hst
      rw [← he2] at kE2 hst
      have HST := Lib.hid hst
      have HS := Lib.hid (And.intro hxs hs)
      have hi0 : (0 : Int) ≤ k := by omega
      have hi1 : (k : Int) < AL.length := by omega
      have HK := Lib.hid (show k + 1 ≤ AL.length from hkn)
      have HM := Lib.hid (show AL.length - (k + 1) < AL.length - k by omega)
      have HWK := Lib.hid (wrapsV (show k < 1048576 by have := HLEN.out; omega))
      have hZ := Below.refl w4.heap.size w4
      have HRX := Lib.hid (And.intro hbB rx)
      clear hx hp hpo hqo hst hxs hs hq he1 he2
      go_wp2_with fail
      refine (kS1 _ hZ).mono ?_
      rintro e v1 ⟨⟨u1, rfl, hu1⟩, hB⟩
      replace hZ := hZ.trans (hB.mono hZ.size)
      clear hB rx kS1
      go_wp2_with fail
      refine (kE1 _ _ hZ hu1).mono ?_
      rintro e v2 ⟨rfl, hB⟩
      replace hZ := hZ.trans (hB.mono hZ.size)
      clear hB kE1 hu1
      go_wp2_with fail
      refine (kS2 _ hZ).mono ?_
      rintro e v3 ⟨⟨u1, rfl, hu1⟩, hB⟩
      replace hZ := hZ.trans (hB.mono hZ.size)
      clear hB kS2
      obtain ⟨bb, hbb⟩ : ∃ bb, decide (e1 < e2) = bb := ⟨_, rfl⟩
      have HBB := Lib.hid hbb
      have hY4 := hY.trans ((Below.refl w4.heap.size w4).mono hY.size)
      go_wp2_with fail
      refine (kE2 _ _ hZ hu1).mono ?_
      rintro e v4 ⟨rfl, hB⟩
      replace hZ := hZ.trans (hB.mono hZ.size)
      clear hB kE2 hu1
      have rx := (hZ.cell (p := ⟨bA, oA + k, none⟩) HRX.out.1).trans HRX.out.2
      have hYE := hY.trans (hZ.mono hY.size)
      obtain ⟨wk1, wk2⟩ := HWK.out
      cases bb with
      | true =>
        have HR : RowKit.Hid (SlI v4 (.slice Ax2 (ints p).length cx2) (ints (pickP (endP js m) (AL.take (k + 1)) o))) := Lib.hid (by
          rw [HST.out, if_pos (of_decide_eq_true HBB.out)]
          exact HS.out.1.below hZ)
        clear hXY hY hY4
        go_wp2_with fail
        go_roundw
        case rel => exact ⟨k + 1, HK.out, by simp, HR.out, hYE⟩
        case measure => exact HM.out
      | false =>
        have HR : RowKit.Hid (SlI v4 (.slice Aq (ints q).length cq) (ints (pickP (endP js m) (AL.take (k + 1)) o))) := Lib.hid (by
          rw [HST.out, if_neg (of_decide_eq_false HBB.out)]
          exact HS.out.2.below hZ)
        clear hXY hY hY4
        go_wp2_with fail
        go_roundw
        case rel => exact ⟨k + 1, HK.out, by simp, HR.out, hYE⟩
        case measure => exact HM.out
    · rw [List.take_length] at hs
      have HE := Lib.hid hs
      have hXE := hX.trans (hY.mono hX.size)
      clear hs
      go_wp2_with fail
      go_ret
      exact ⟨⟨_, rfl, HE.out⟩, hXE⟩
end Go.Proofs
end
