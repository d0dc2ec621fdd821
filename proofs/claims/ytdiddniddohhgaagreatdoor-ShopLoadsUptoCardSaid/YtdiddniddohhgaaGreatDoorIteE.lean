/- Items, exactly: the first error. -/
import Derived.Test.YtdiddniddohhgaaGreatDoorIteL
import Derived.Test.YtdiddniddohhgaaGreatDoorErrI
import Derived.Test.YtdiddniddohhgaaGreatDoorJbE
namespace Go.Proofs
open Go.RowKit Go.MapKept
set_option maxHeartbeats 16000000
set_option maxRecDepth 1000000
theorem mem_takeFQ {α : Type} {f : α → ByteArray} {l : List α} {k : Nat} {s : ByteArray} : s ∈ (l.take k).map f ↔ ∃ (j : Nat) (u : α), j < k ∧ l[j]? = some u ∧ f u = s := by
  constructor
  · intro h
    obtain ⟨t, ht, e⟩ := List.mem_map.1 h
    obtain ⟨j, hj⟩ := List.mem_iff_getElem?.1 ht
    rw [List.getElem?_take] at hj
    split at hj
    · rename_i hjk
      exact ⟨j, t, hjk, hj, e⟩
    · cases hj
  · rintro ⟨j, u, hj, hu, rfl⟩
    refine List.mem_map.2 ⟨u, List.mem_iff_getElem?.2 ⟨j, ?_⟩, rfl⟩
    rw [List.getElem?_take, if_pos hj]
    exact hu
noncomputable def iteE (cp : Int) (l : List ItemT) (k : Nat) (t : ItemT) : Int := orL [nameE t.1, nameE t.2.1, twiceE t.1 ((l.take k).map (·.1)), withinI t.2.2 1 cp]
theorem iteE_cases (cp : Int) (l : List ItemT) (k : Nat) (t : ItemT) : (nameE t.1 = 8 ∧ iteE cp l k t = 8) ∨ (nameE t.1 = 0 ∧ ((nameE t.2.1 = 8 ∧ iteE cp l k t = 8) ∨ (nameE t.2.1 = 0 ∧ ((twiceE t.1 ((l.take k).map (·.1)) = 9 ∧ iteE cp l k t = 9) ∨ (twiceE t.1 ((l.take k).map (·.1)) = 0 ∧ ((withinI t.2.2 1 cp ≠ 0 ∧ iteE cp l k t = 3) ∨ (withinI t.2.2 1 cp = 0 ∧ iteE cp l k t = 0))))))) := by
  unfold iteE
  rcases nameE_or t.1 with h | h <;> rcases nameE_or t.2.1 with h2 | h2 <;> rcases twiceE_or t.1 ((l.take k).map (·.1)) with h3 | h3 <;> rcases withinI_cases2 t.2.2 1 cp with h4 | h4 <;> rw [h, h2, h3, h4] <;> simp [orL]
def IteX (cp : Int) (l : List ItemT) (e : Int) : Prop := (64 < l.length ∧ e = 5) ∨ (l.length ≤ 64 ∧ ((withinI cp 1 999999999 ≠ 0 ∧ e = 3) ∨ (withinI cp 1 999999999 = 0 ∧ ScanE l (iteE cp l) e)))
theorem IteX.same {cp : Int} {l : List ItemT} {e e' : Int} (h : IteX cp l e) (h' : IteX cp l e') : e = e' := by
  rcases h with ⟨h1, rfl⟩ | ⟨h1, ⟨h2, rfl⟩ | ⟨h2, h3⟩⟩ <;> rcases h' with ⟨g1, rfl⟩ | ⟨g1, ⟨g2, rfl⟩ | ⟨g2, g3⟩⟩ <;> first | rfl | exact h3.same g3 | (exfalso; omega)
structure ItesOk (cp : Int) (l : List ItemT) : Prop where
  few : l.length ≤ 64
  cr : 1 ≤ cp ∧ cp ≤ 999999999
  at_ : ∀ x ∈ l, 1 ≤ x.2.2 ∧ x.2.2 ≤ cp
theorem IteX.ok {cp : Int} {l : List ItemT} (h : IteX cp l 0) : ItesOk cp l := by
  rcases h with ⟨h1, e⟩ | ⟨h1, ⟨h2, e⟩ | ⟨h2, ⟨-, h3⟩ | ⟨h3, -⟩⟩⟩
  · cases e
  · cases e
  · refine ⟨h1, (within_cases _ _ _).2.2.1 h2, fun x hx => ?_⟩
    obtain ⟨k, hk⟩ := List.mem_iff_getElem?.1 hx
    have h4 := orL_eq0.1 (h3 k x hk)
    exact (within_cases _ _ _).2.2.1 (h4 (withinI x.2.2 1 cp) (by simp))
  · exact absurd rfl h3
theorem IteX.rng {cp : Int} {l : List ItemT} {e : Int} (h : IteX cp l e) : 0 ≤ e ∧ e ≤ 9 := by
  rcases h with ⟨h1, rfl⟩ | ⟨h1, ⟨h2, rfl⟩ | ⟨h2, ⟨rfl, -⟩ | ⟨-, k, t, -, rfl, -⟩⟩⟩
  · omega
  · omega
  · omega
  · have := iteE_cases cp l k t
    omega
/-- A greater capacity does no harm. -/
theorem IteX.more {cp cq : Int} {l : List ItemT} (h : IteX cp l 0) (h1 : cp ≤ cq) (h2 : cq ≤ 999999999) : IteX cq l 0 := by
  rcases h with ⟨-, e⟩ | ⟨g1, ⟨-, e⟩ | ⟨g2, ⟨-, g3⟩ | ⟨g3, -⟩⟩⟩
  · cases e
  · cases e
  · have hc := (within_cases _ _ _).2.2.1 g2
    refine .inr ⟨g1, .inr ⟨(within_cases _ _ _).2.2.2 (by omega), .inl ⟨rfl, fun k t hk => ?_⟩⟩⟩
    have h4 := orL_eq0.1 (g3 k t hk)
    have h5 := (within_cases _ _ _).2.2.1 (h4 (withinI t.2.2 1 cp) (by simp))
    unfold iteE
    refine orL_eq0.2 fun e he => ?_
    simp only [List.mem_cons, List.not_mem_nil, or_false] at he
    rcases he with rfl | rfl | rfl | rfl
    · exact h4 _ (by simp)
    · exact h4 _ (by simp)
    · exact h4 _ (by simp)
    · exact (within_cases _ _ _).2.2.2 (by omega)
  · exact absurd rfl g3
theorem refIteX_ok (cp : Int) (v : Value) (l : List ItemT) (w : World) (hl : SlF encQ w v l) :
    Calls Tryz.prog 11 #[v, .int .i64 cp] w fun e w' => ∃ n, e = .returned (.int .i64 n) ∧ IteX cp l n ∧ Below w.heap.size w w' := by
  have H5 : RowKit.Hid (64 < l.length → IteX cp l 5) := Lib.hid fun h => .inl ⟨h, rfl⟩
  have H3 : RowKit.Hid (l.length ≤ 64 → withinI cp 1 999999999 ≠ 0 → IteX cp l 3) := Lib.hid fun h h2 => .inr ⟨h, .inl ⟨h2, rfl⟩⟩
  have HN : RowKit.Hid (∀ n, l.length ≤ 64 → withinI cp 1 999999999 = 0 → ScanE l (iteE cp l) n → IteX cp l n) := Lib.hid fun n h h3 h2 => .inr ⟨h, .inr ⟨h3, h2⟩⟩
  have kC := fun W => refRange9_ok cp 1 999999999 W
  generalize IteX cp l = GX at H5 H3 HN ⊢
  obtain ⟨A, cap, rfl⟩ := hl.form
  have hB0 := Below.refl w.heap.size w
  by_cases h64 : 64 < l.length
  · have hc : decide ((64 : Int) < l.length) = true := decide_eq_true (by omega)
    have HR := Lib.hid (H5.out h64)
    clear h64 H5 H3 HN kC
    go_enter Tryz.func11, Tryz.ntmps11
    go_wp2
    go_ret
    exact ⟨5, rfl, HR.out, hB0⟩
  · have hc : decide ((64 : Int) < l.length) = false := decide_eq_false (by omega)
    have hfew : l.length ≤ 64 := by omega
    by_cases hcz : withinI cp 1 999999999 = 0
    case neg =>
      have HR := Lib.hid (H3.out hfew hcz)
      have hcb : (withinI cp 1 999999999 != 0) = true := by simpa using hcz
      clear h64 H5 H3 HN hcz
      generalize withinI cp 1 999999999 = wc at kC hcb
      go_enter Tryz.func11, Tryz.ntmps11
      go_wp2_with (go_at_call 44; refine (kC _).mono ?_; rintro e w2 ⟨rfl, hw⟩; obtain rfl : w = w2 := hw.symm)
      go_ret
      exact ⟨3, rfl, HR.out, hB0⟩
    have HGn : RowKit.Hid (∀ n, ScanE l (iteE cp l) n → GX n) := Lib.hid fun n h => HN.out n hfew hcz h
    rw [hcz] at kC
    clear h64 H5 H3 HN hcz
    go_enter Tryz.func11, Tryz.ntmps11
    go_wp2_with (go_at_call 44; refine (kC _).mono ?_; rintro e w2 ⟨rfl, hw⟩; obtain rfl : w = w2 := hw.symm)
    clear kC
    go_loopw [5] (fun i wr => ∃ k : Nat, k ≤ l.length ∧ i = .int .i64 k ∧ PreE l (iteE cp l) k ∧ Below w.heap.size w wr) (fun i _ => l.length - (intOf i).toNat)
    case atStart => exact ⟨0, Nat.zero_le _, rfl, PreE.zero _ _, hB0⟩
    case round =>
      clear hB0
      obtain ⟨k, hk, rfl, hp, hX⟩ := hrel
      rename World => w1
      rcases Nat.lt_or_eq_of_le hk with hkn | rfl
      · obtain ⟨⟨nm, kd, gr⟩, hc⟩ : ∃ t, l[k]? = some t := ⟨_, List.getElem?_eq_getElem hkn⟩
        obtain ⟨b, o, rfl, -, hb, r0, r1, r2⟩ := ite_cells (hl.below hX) hc
        dsimp only at r0 r1 r2
        have hi0 : (0 : Int) ≤ k := by omega
        have hi1 : (k : Int) < l.length := by omega
        have hcs := iteE_cases cp l k (nm, kd, gr)
        dsimp only at hcs
        have hne : nameE nm = if nameB nm then 0 else 8 := rfl
        have hke : nameE kd = if nameB kd then 0 else 8 := rfl
        have kN := fun W => refNameX_ok nm W
        have kK := fun W => refNameX_ok kd W
        generalize nameB nm = nb at kN hne
        generalize nameB kd = kb at kK hke
        have HCS := Lib.hid hcs
        have HNE := Lib.hid hne
        have HKE := Lib.hid hke
        have HP := Lib.hid hp
        have HKK := Lib.hid (show k + 1 ≤ l.length from hkn)
        have HKM := Lib.hid (show l.length - (k + 1) < l.length - k by omega)
        have HWK := Lib.hid (wrapsLQ (show k < 1048576 by omega))
        clear hcs hne hke hp
        cases nb with
        | false =>
          have ht8 : iteE cp l k (nm, kd, gr) = 8 := by
            have h1 := HCS.out
            have h2 := HNE.out
            simp only [Bool.false_eq_true, if_false] at h2
            omega
          have HR := Lib.hid (HGn.out 8 (by have := HP.out.bad hc (by rw [ht8]; decide); rwa [ht8] at this))
          clear ht8
          go_wp2_with (go_at_call 45; with_reducible refine (kN _).mono ?_; rintro e w2 ⟨rfl, rfl⟩)
          go_ret
          exact ⟨8, rfl, HR.out, hX⟩
        | true =>
        cases kb with
        | false =>
          have ht8 : iteE cp l k (nm, kd, gr) = 8 := by
            have h1 := HCS.out
            have h2 := HKE.out
            have h3 := HNE.out
            simp only [Bool.false_eq_true, if_false] at h2
            simp only [if_true] at h3
            omega
          have HR := Lib.hid (HGn.out 8 (by have := HP.out.bad hc (by rw [ht8]; decide); rwa [ht8] at this))
          clear ht8
          go_wp2_with (go_at_call 45; (first | with_reducible refine (kN _).mono ?_ | with_reducible refine (kK _).mono ?_); rintro e w2 ⟨rfl, rfl⟩)
          go_ret
          exact ⟨8, rfl, HR.out, hX⟩
        | true =>
        go_wp2_with (go_at_call 45; (first | with_reducible refine (kN _).mono ?_ | with_reducible refine (kK _).mono ?_); rintro e w2 ⟨rfl, rfl⟩)
        clear r0 r1 r2 hb kN kK
        go_loopw [6] (fun j wr2 => ∃ m : Nat, m ≤ k ∧ j = .int .i64 m ∧ (∀ (i : Nat) (s' : ItemT), i < m → l[i]? = some s' → s'.1 ≠ nm) ∧ Below w.heap.size w wr2) (fun j _ => k - (intOf j).toNat)
        case atStart => exact ⟨0, Nat.zero_le _, rfl, fun i s' h _ => absurd h (Nat.not_lt_zero i), hX⟩
        case round =>
          clear hX
          obtain ⟨m, hm, rfl, hd, hY⟩ := hrel
          rename World => w3
          obtain ⟨b', o', e5, -, hb, r0, r1, r2⟩ := ite_cells (hl.below hY) hc
          obtain ⟨rfl, rfl⟩ : b = b' ∧ o = o' := by injection e5 with e6; injection e6 with e7 e8; exact ⟨e7, e8⟩
          dsimp only at r0 r1 r2
          rcases Nat.lt_or_eq_of_le hm with hmn | rfl
          · obtain ⟨⟨nm2, kd2, gr2⟩, hc'⟩ : ∃ t, l[m]? = some t := ⟨_, List.getElem?_eq_getElem (by omega)⟩
            obtain ⟨b', o', e5', -, hb', p0, p1, p2⟩ := ite_cells (hl.below hY) hc'
            obtain ⟨rfl, rfl⟩ : b = b' ∧ o = o' := by injection e5' with e6; injection e6 with e7 e8; exact ⟨e7, e8⟩
            dsimp only at p0 p1 p2
            have hj0 : (0 : Int) ≤ m := by omega
            have hj1 : (m : Int) < k := by omega
            have hj2 : (m : Int) < l.length := by omega
            go_wp2_with fail
            go_quiet (fail)
            cases hss : (nm2.toList == nm.toList) with
            | true =>
              have hsame : nm2 = nm := by
                apply Classical.byContradiction
                intro h
                rw [bytes_ne h] at hss
                cases hss
              have ht9 : iteE cp l k (nm, kd, gr) = 9 := by
                have h1 := twiceE_yes (s := nm) (l := (l.take k).map (·.1)) (mem_takeFQ.2 ⟨m, _, hmn, hc', hsame⟩)
                have h2 := HCS.out
                have h3 := HNE.out
                have h4 := HKE.out
                simp only [if_true] at h3 h4
                omega
              have HR := Lib.hid (HGn.out 9 (by have := HP.out.bad hc (by rw [ht9]; decide); rwa [ht9] at this))
              clear ht9 hsame hd
              go_wp2
              go_ret
              exact ⟨9, rfl, HR.out, below_drewN hY _⟩
            | false =>
              go_wp2
              go_roundw
              case rel =>
                refine ⟨m + 1, hmn, by simp, fun i u hi hu => ?_, below_drewN hY _⟩
                rcases Nat.lt_or_eq_of_le (Nat.le_of_lt_succ hi) with h1 | rfl
                · exact hd i u h1 hu
                · obtain rfl := Option.some.inj (hc'.symm.trans hu)
                  rintro rfl
                  simp at hss
              case measure => simp [intOf]; omega
          · have htc : (withinI gr 1 cp ≠ 0 ∧ iteE cp l m (nm, kd, gr) = 3) ∨ (withinI gr 1 cp = 0 ∧ iteE cp l m (nm, kd, gr) = 0) := by
              have h1 := twiceE_no (s := nm) (l := (l.take m).map (·.1)) (fun h => by
                obtain ⟨j, u, h4, h5, h6⟩ := mem_takeFQ.1 h
                exact hd j u h4 h5 h6)
              have h2 := HCS.out
              have h3 := HNE.out
              have h4 := HKE.out
              simp only [if_true] at h3 h4
              omega
            have kg := fun W => refRange9_ok gr 1 cp W
            generalize withinI gr 1 cp = eg at htc kg
            obtain ⟨wk1, wk2⟩ := HWK.out
            have HT := Lib.hid htc
            clear htc hd
            go_wp2_with fail
            refine (kg _).mono ?_
            rintro e w5 ⟨rfl, rfl⟩
            rcases HT.out with ⟨h1, h2⟩ | ⟨h1, h2⟩
            · have hne3 : (eg != 0) = true := by simpa using h1
              have HR := Lib.hid (HGn.out 3 (by have := HP.out.bad hc (by rw [h2]; decide); rwa [h2] at this))
              clear h1 h2 HT
              go_wp2
              go_ret
              exact ⟨3, rfl, HR.out, hY⟩
            · have hne3 : (eg != 0) = false := by simpa using h1
              have HS := Lib.hid (HP.out.step hc h2)
              clear h1 h2 HT
              go_wp2
              go_roundw
              case rel => exact ⟨_, HKK.out, by simp, HS.out, hY⟩
              case measure => exact HKM.out
      · have HR := Lib.hid (HGn.out 0 (hp.done (Nat.le_refl _)))
        clear hp
        go_wp2
        go_ret
        exact ⟨0, rfl, HR.out, hX⟩
theorem shFirst4Q (a b c d : Int) (blk cap : Nat) (w : World) (h0 : w.cell? ⟨blk, 0, none⟩ = some (.int .i64 a)) (h1 : w.cell? ⟨blk, 1, none⟩ = some (.int .i64 b)) (h2 : w.cell? ⟨blk, 2, none⟩ = some (.int .i64 c)) (h3 : w.cell? ⟨blk, 3, none⟩ = some (.int .i64 d)) :
    Calls Tryz.prog 39 #[.slice (some ⟨blk, 0, none⟩) 4 cap] w fun e w' => e = .returned (.int .i64 (orL [a, b, c, d])) ∧ w' = w := by
  have h := shFirst4 a b c d blk cap w h0 h1 h2 h3
  rw [or4_orL] at h
  exact h
theorem three_cellsQ {V : World} {b : Nat} {x y z : Value} {T : TypeId} (h : V.heap[b]? = some (.cells #[x, y, z] T (0, 0))) : V.cell? ⟨b, 0, none⟩ = some x ∧ V.cell? ⟨b, 1, none⟩ = some y ∧ V.cell? ⟨b, 2, none⟩ = some z := three_rows h
theorem shIteX_ok (cp : Int) (v : Value) (l : List ItemT) (w : World) (hl : SlF encQ w v l) :
    Calls Tryz.prog 17 #[v, .int .i64 cp] w fun e w' => ∃ n, e = .returned (.int .i64 n) ∧ IteX cp l n ∧ Below w.heap.size w w' := by
  have H5 : RowKit.Hid (64 < l.length → IteX cp l 5) := Lib.hid fun h => .inl ⟨h, rfl⟩
  have H3 : RowKit.Hid (l.length ≤ 64 → withinI cp 1 999999999 ≠ 0 → IteX cp l 3) := Lib.hid fun h h2 => .inr ⟨h, .inl ⟨h2, rfl⟩⟩
  have HN : RowKit.Hid (∀ n, l.length ≤ 64 → withinI cp 1 999999999 = 0 → ScanE l (iteE cp l) n → IteX cp l n) := Lib.hid fun n h h3 h2 => .inr ⟨h, .inr ⟨h3, h2⟩⟩
  generalize IteX cp l = GX at H5 H3 HN ⊢
  obtain ⟨b2, hb2⟩ : ∃ b, decide ((64 : Int) < (l.length : Int)) = b := ⟨_, rfl⟩
  have hw2 := fun W => shWhen_ok b2 5 W
  have hwi := fun W => shWithin_ok cp 1 999999999 W
  have hwc := withinI_cases2 cp 1 999999999
  obtain ⟨ea, hea⟩ : ∃ ea, ea = (if b2 = true then (5 : Int) else 0) := ⟨_, rfl⟩
  obtain ⟨ec, hec⟩ : ∃ ec, ec = withinI cp 1 999999999 := ⟨_, rfl⟩
  simp only [← hea] at hw2
  simp only [← hec] at hwi hwc H3 HN
  obtain ⟨er, her⟩ : ∃ er, er = or3 ea ec 0 := ⟨_, rfl⟩
  have hF : (er = 0 ∧ l.length ≤ 64 ∧ ec = 0) ∨ (er ≠ 0 ∧ GX er) := by
    rw [her, hea]
    cases b2 with
    | true => exact .inr ⟨by simp [or3], by
        have := H5.out (by have := of_decide_eq_true hb2; omega)
        simpa [or3] using this⟩
    | false =>
      have h1 := of_decide_eq_false hb2
      rcases hwc with h2 | h2
      · exact .inl ⟨by simp [or3, h2], by omega, h2⟩
      · exact .inr ⟨by simp [or3, h2], by
          have := H3.out (by omega) (by omega)
          simpa [or3, h2] using this⟩
  have ho2 := fun blk W => shFirst2 ea ec blk 2 W
  simp only [← her] at ho2
  clear hea her hwc
  obtain ⟨W1, hW1⟩ : ∃ W1, W1 = w.alloc (.cells #[.int .i64 ea, .int .i64 ec] 28) := ⟨_, rfl⟩
  have hX1 : Below w.heap.size w W1 := by subst hW1; exact (Below.refl _ _).alloc (Nat.le_refl _) _
  have rE : RowK W1 28 w.heap.size [.int .i64 ea, .int .i64 ec] := by subst hW1; exact heap_alloc_new w _
  have e0 : W1.cell? ⟨w.heap.size, 0, none⟩ = some (.int .i64 ea) := rE.cell (by rfl)
  have e1 : W1.cell? ⟨w.heap.size, 1, none⟩ = some (.int .i64 ec) := rE.cell (by rfl)
  have HW1 := Lib.hid hW1
  clear hW1 rE
  rcases hF with ⟨rfl, hfew, hec0⟩ | ⟨hne, hG⟩
  case inr =>
    obtain ⟨A0, cap0, rfl⟩ := hl.form
    have hre : (er != 0) = true := by simpa using hne
    have HG := Lib.hid hG
    clear hG H5 H3 HN hne hl hec
    go_enter Tryz.func17, Tryz.ntmps17
    go_wp2_with (first
      | (go_at_call 40; refine (hw2 _).mono ?_; rintro e w4 ⟨rfl, hw4⟩; obtain rfl : w = w4 := hw4.symm)
      | (go_at_call 47; refine (hwi _).mono ?_; rintro e w4 ⟨rfl, hw4⟩; obtain rfl : w = w4 := hw4.symm)
      | (go_at_call 39; rw [← HW1.out]; refine (ho2 _ _ e0 e1).mono ?_; rintro e w5 ⟨rfl, hw5⟩; obtain rfl : W1 = w5 := hw5.symm))
    go_ret
    exact ⟨er, rfl, HG.out, hX1⟩
  case inl =>
    have HGX : RowKit.Hid (∀ n, ScanE l (iteE cp l) n → GX n) := Lib.hid fun n h => HN.out n hfew hec0 h
    clear H5 H3 HN hec hec0
    obtain ⟨A, cap, rfl⟩ := hl.form
    obtain ⟨mb, hmb⟩ : ∃ mb, mb = W1.heap.size := ⟨_, rfl⟩
    have hwm : w.heap.size ≤ mb := by rw [hmb]; exact hX1.size
    have hmk := run_makeMap (P := Tryz.prog) 109 W1
    have hM0 := NMX.made W1
    have hBM : Below w.heap.size w (W1.alloc (.map #[] 0)) := hX1.alloc hX1.size _
    have hzM : W1.heap.size < (W1.alloc (.map #[] 0)).heap.size := by simp
    rw [← hmb] at hM0 hzM
    go_enter Tryz.func17, Tryz.ntmps17
    go_wp2_with (first
      | (go_at_call 40; refine (hw2 _).mono ?_; rintro e w4 ⟨rfl, hw4⟩; obtain rfl : w = w4 := hw4.symm)
      | (go_at_call 47; refine (hwi _).mono ?_; rintro e w4 ⟨rfl, hw4⟩; obtain rfl : w = w4 := hw4.symm)
      | (go_at_call 39; rw [← HW1.out]; refine (ho2 _ _ e0 e1).mono ?_; rintro e w5 ⟨rfl, hw5⟩; obtain rfl : W1 = w5 := hw5.symm))
    clear hmk hX1 e0 e1 ho2 hw2 hwi
    rw [← hmb]
    clear hmb
    go_loopw [24] (fun i wr => ∃ k : Nat, k ≤ l.length ∧ i = .int .i64 k ∧ PreE l (iteE cp l) k ∧ NMX wr mb ((l.take k).map (·.1)) ∧ mb < wr.heap.size ∧ Below w.heap.size w wr) (fun i _ => l.length - (intOf i).toNat)
    case atStart => exact ⟨0, Nat.zero_le _, rfl, PreE.zero _ _, hM0, hzM, hBM⟩
    case round =>
      clear hM0 hzM hBM
      obtain ⟨k, hk, rfl, hp, hM, hz, hBw⟩ := hrel
      rcases Nat.lt_or_eq_of_le hk with hkn | rfl
      · obtain ⟨⟨nm, kd, gr⟩, hc⟩ : ∃ t, l[k]? = some t := ⟨_, List.getElem?_eq_getElem hkn⟩
        obtain ⟨b, o, rfl, -, hb, r0, r1, r2⟩ := ite_cells (hl.below hBw) hc
        dsimp only at r0 r1 r2
        have hi0 : (0 : Int) ≤ k := by omega
        have hi1 : (k : Int) < l.length := by omega
        have hsucc : (l.take (k + 1)).map (·.1) = (l.take k).map (·.1) ++ [nm] := by
          rw [List.take_add_one, hc]
          simp
        obtain ⟨Wt, hW⟩ : ∃ Wt, Wt = (wr.alloc (.cells #[.string nm, .string kd, .int .i64 gr] 48)) := ⟨_, rfl⟩
        have hb0 : Wt.heap[wr.heap.size]? = some (.cells #[.string nm, .string kd, .int .i64 gr] 48 (0, 0)) := by subst hW; exact heap_alloc_new wr _
        have hzt : wr.heap.size < Wt.heap.size := (Array.getElem?_eq_some_iff.1 hb0).1
        have hYt : Below w.heap.size w Wt := by subst hW; exact hBw.alloc hBw.size _
        have hMt : NMX Wt mb ((l.take k).map (·.1)) := by subst hW; exact hM.keep (Below.heap_alloc _ _ _ hz)
        have kz : ∀ V : World, V.heap[wr.heap.size]? = some (.cells #[.string nm, .string kd, .int .i64 gr] 48 (0, 0)) → V.cell? ⟨wr.heap.size, 0, none⟩ = some (.string nm) ∧ V.cell? ⟨wr.heap.size, 1, none⟩ = some (.string kd) ∧ V.cell? ⟨wr.heap.size, 2, none⟩ = some (.int .i64 gr) := fun V h => three_cellsQ h
        have hky := kz Wt.drew hb0
        have hwB := hBw.size
        have hsl : ∀ W, Calls Tryz.prog 48 #[.string nm] W fun e w' => e = .returned (.int .i64 (nameE nm)) ∧ Below W.heap.size W w' := fun W => shCheckNameX_ok nm W
        have hsk : ∀ W, Calls Tryz.prog 48 #[.string kd] W fun e w' => e = .returned (.int .i64 (nameE kd)) ∧ Below W.heap.size W w' := fun W => shCheckNameX_ok kd W
        have kA := fun W (h : NMX W mb ((l.take k).map (·.1))) => shAddX_ok mb ((l.take k).map (·.1)) nm W h
        have kg := fun W => shWithin_ok gr 1 cp W
        have htE : iteE cp l k (nm, kd, gr) = orL [nameE nm, nameE kd, twiceE nm ((l.take k).map (·.1)), withinI gr 1 cp] := rfl
        have hr2 : orL [nameE nm, nameE kd, twiceE nm ((l.take k).map (·.1)), withinI gr 1 cp] = 0 → twiceE nm ((l.take k).map (·.1)) = 0 := fun h => orL_eq0.1 h _ (by simp)
        generalize nameE nm = ea at hsl htE hr2
        generalize nameE kd = ea2 at hsk htE hr2
        generalize twiceE nm ((l.take k).map (·.1)) = eb at kA htE hr2
        generalize withinI gr 1 cp = eg at kg htE hr2
        have ho := fun blk W => shFirst4Q ea ea2 eb eg blk 4 W
        generalize orL [ea, ea2, eb, eg] = er at ho htE hr2
        have HP := Lib.hid hp
        have HT := Lib.hid htE
        have HC := Lib.hid hc
        have HR2 := Lib.hid hr2
        have HKK := Lib.hid (show k + 1 ≤ l.length from hkn)
        have HKM := Lib.hid (show l.length - (k + 1) < l.length - k by omega)
        have HWK := Lib.hid (wrapsLQ (show k < 1048576 by omega))
        clear hM hc hl hp htE hr2
        go_wp2_with fail
        rw [← hW]
        clear hW r0 r1 r2
        go_region_held3 (fun w' => w'.cell? ⟨wr.heap.size, 0, none⟩ = some (.string nm) ∧ w'.cell? ⟨wr.heap.size, 1, none⟩ = some (.string kd) ∧ w'.cell? ⟨wr.heap.size, 2, none⟩ = some (.int .i64 gr)) (first | exact hky | exact hkyA | go_keep)
          (first
            | (go_at_call 48; refine (hsl _).mono ?_; rintro e v1 ⟨rfl, hQ1⟩; have hb1 := (hQ1.block wr.heap.size hzt).trans hb0; have hm1 := hMt.keep (hQ1.block mb (Nat.lt_trans hz hzt)); have hky := kz _ hb1; have hY1 := hYt.drew.trans (hQ1.mono (Nat.le_trans hwB (Nat.le_of_lt hzt))); have hs1 := hQ1.size)
            | (go_at_call 48; refine (hsk _).mono ?_; rintro e v11 ⟨rfl, hQ11⟩; have hb11 := (hQ11.block wr.heap.size (Array.getElem?_eq_some_iff.1 hb1).1).trans hb1; have hm11 := hm1.keep (hQ11.block mb hm1.lt); have hky := kz _ hb11; have hY11 := hY1.trans (hQ11.mono hY1.size); have hs11 := hm11.lt)
            | (go_at_call 49; refine (kA _ hm11).mono ?_; rintro e v2 ⟨rfl, hg2, l2, hm2, hl2⟩; have hb2 := (hg2.block wr.heap.size (Array.getElem?_eq_some_iff.1 hb11).1 (by simp; omega)).trans hb11; have hky := kz _ hb2; have hY2 := hY11.grown hg2 hY11.size (fun j hj => by injection hj with hj; omega); have hs2 := hg2.size; have hkyA := kz (v2.alloc (.cells #[.int .i64 ea, .int .i64 ea2, .int .i64 eb, .int .i64 eg] 28)).drew ((Below.heap_alloc _ _ _ (Array.getElem?_eq_some_iff.1 hb2).1).trans hb2))
            | (go_at_call 47; refine (kg _).mono ?_; rintro e v3 ⟨rfl, rfl⟩)
            | (go_at_call 39; refine (ho _ _ ?_ ?_ ?_ ?_).mono ?_; (go_simp); (go_simp); (go_simp); (go_simp); rintro e w5 ⟨rfl, rfl⟩))
        rename_i hHeld
        clear hHeld hkyA hky hsl hsk hb1 hm1 hb11 hm11 hb2 kz hb0 hMt hYt hQ1 hQ11 hY1 hY11 ho kA kg
        have hm4 : NMX (v3.alloc (.cells #[.int .i64 ea, .int .i64 ea2, .int .i64 eb, .int .i64 eg] 28)) mb l2 := hm2.keep (Below.heap_alloc _ _ _ hm2.lt)
        have hY4 := hY2.alloc hY2.size (.cells #[.int .i64 ea, .int .i64 ea2, .int .i64 eb, .int .i64 eg] 28)
        have hz4 : mb < (v3.alloc (.cells #[.int .i64 ea, .int .i64 ea2, .int .i64 eb, .int .i64 eg] 28)).heap.size := by have := hm2.lt; simp; omega
        generalize v3.alloc (.cells #[.int .i64 ea, .int .i64 ea2, .int .i64 eb, .int .i64 eg] 28) = v4 at hm4 hY4 hz4 ⊢
        have HL2 := Lib.hid hl2
        have HS := Lib.hid hsucc
        clear hm2 hY2 hg2 hl2 hsucc
        obtain ⟨wk1, wk2⟩ := HWK.out
        by_cases her : er = 0
        · subst her
          have hl3 := HL2.out (HR2.out rfl)
          subst hl3
          rw [← HS.out] at hm4
          go_wp2
          go_roundw
          case rel => exact ⟨k + 1, HKK.out, by simp, HP.out.step HC.out HT.out, hm4, hz4, hY4⟩
          case measure => exact HKM.out
        · have hre : (er != 0) = true := by simpa using her
          have HR := Lib.hid (HGX.out er (by have := HP.out.bad HC.out (by rw [HT.out]; exact her); rwa [HT.out] at this))
          go_wp2
          go_ret
          exact ⟨er, rfl, HR.out, hY4⟩
      · have HR := Lib.hid (HGX.out 0 (hp.done (Nat.le_refl _)))
        clear hp
        go_wp2
        go_ret
        exact ⟨0, rfl, HR.out, hBw⟩
end Go.Proofs
