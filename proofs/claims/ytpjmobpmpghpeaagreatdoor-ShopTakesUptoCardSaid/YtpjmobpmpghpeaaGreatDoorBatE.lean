/- Batches, exactly: the first error. -/
import Derived.Test.YtpjmobpmpghpeaaGreatDoorBatL
import Derived.Test.YtpjmobpmpghpeaaGreatDoorErrI
namespace Go.Proofs
open Go.RowKit Go.MapKept
set_option maxHeartbeats 16000000
set_option maxRecDepth 1000000
theorem mem_takeF {α : Type} {f : α → ByteArray} {l : List α} {k : Nat} {s : ByteArray} : s ∈ (l.take k).map f ↔ ∃ (j : Nat) (u : α), j < k ∧ l[j]? = some u ∧ f u = s := by
  constructor
  · intro h
    obtain ⟨t, ht, e⟩ := List.mem_map.1 h
    obtain ⟨j, hj⟩ := List.mem_iff_getElem?.1 ht
    rw [List.getElem?_take] at hj
    split at hj
    · rename_i hjk
      exact ⟨j, t, hjk, hj, e⟩
    · cases hj
  · rintro ⟨j, u, hj, hu, rfl⟩
    refine List.mem_map.2 ⟨u, List.mem_iff_getElem?.2 ⟨j, ?_⟩, rfl⟩
    rw [List.getElem?_take, if_pos hj]
    exact hu
noncomputable def batE (l : List BatT) (k : Nat) (t : BatT) : Int := orL [nameE t.1, nameE t.2.1, twiceE t.1 ((l.take k).map (·.1)), withinI t.2.2.1 0 999999999, withinI t.2.2.2 0 99999]
theorem batE_cases (l : List BatT) (k : Nat) (t : BatT) : (nameE t.1 = 8 ∧ batE l k t = 8) ∨ (nameE t.1 = 0 ∧ ((nameE t.2.1 = 8 ∧ batE l k t = 8) ∨ (nameE t.2.1 = 0 ∧ ((twiceE t.1 ((l.take k).map (·.1)) = 9 ∧ batE l k t = 9) ∨ (twiceE t.1 ((l.take k).map (·.1)) = 0 ∧ ((withinI t.2.2.1 0 999999999 + withinI t.2.2.2 0 99999 ≠ 0 ∧ batE l k t = 3) ∨ (withinI t.2.2.1 0 999999999 + withinI t.2.2.2 0 99999 = 0 ∧ batE l k t = 0))))))) := by
  unfold batE
  rcases nameE_or t.1 with h | h <;> rcases nameE_or t.2.1 with h2 | h2 <;> rcases twiceE_or t.1 ((l.take k).map (·.1)) with h3 | h3 <;> rcases withinI_cases2 t.2.2.1 0 999999999 with h4 | h4 <;> rcases withinI_cases2 t.2.2.2 0 99999 with h5 | h5 <;> rw [h, h2, h3, h4, h5] <;> simp [orL]
def BatX (l : List BatT) (e : Int) : Prop := (256 < l.length ∧ e = 5) ∨ (l.length ≤ 256 ∧ ScanE l (batE l) e)
theorem BatX.same {l : List BatT} {e e' : Int} (h : BatX l e) (h' : BatX l e') : e = e' := by
  rcases h with ⟨h1, rfl⟩ | ⟨h1, h2⟩ <;> rcases h' with ⟨g1, rfl⟩ | ⟨g1, g2⟩ <;> first | rfl | exact h2.same g2 | (exfalso; omega)
structure BatsOk (l : List BatT) : Prop where
  few : l.length ≤ 256
  at_ : ∀ (i : Nat) (t : BatT), l[i]? = some t → (0 ≤ t.2.2.1 ∧ t.2.2.1 ≤ 999999999) ∧ 0 ≤ t.2.2.2 ∧ t.2.2.2 ≤ 99999
theorem BatX.ok {l : List BatT} (h : BatX l 0) : BatsOk l := by
  rcases h with ⟨h1, e⟩ | ⟨h1, ⟨-, h2⟩ | ⟨h2, -⟩⟩
  · cases e
  · refine ⟨h1, fun i t ht => ?_⟩
    have h3 := orL_eq0.1 (h2 i t ht)
    exact ⟨(within_cases _ _ _).2.2.1 (h3 (withinI t.2.2.1 0 999999999) (by simp)), (within_cases _ _ _).2.2.1 (h3 (withinI t.2.2.2 0 99999) (by simp))⟩
  · exact absurd rfl h2
theorem BatX.rng {l : List BatT} {e : Int} (h : BatX l e) : 0 ≤ e ∧ e ≤ 9 := by
  rcases h with ⟨h1, rfl⟩ | ⟨h1, ⟨rfl, -⟩ | ⟨-, k, t, -, rfl, -⟩⟩
  · omega
  · omega
  · have := batE_cases l k t
    omega
theorem refBatX_ok (v : Value) (l : List BatT) (w : World) (hl : SlF encB w v l) :
    Calls Tryz.prog 11 #[v] w fun e w' => ∃ n, e = .returned (.int .i64 n) ∧ BatX l n ∧ Below w.heap.size w w' := by
  have H5 : RowKit.Hid (256 < l.length → BatX l 5) := Lib.hid fun h => .inl ⟨h, rfl⟩
  have HN : RowKit.Hid (∀ n, l.length ≤ 256 → ScanE l (batE l) n → BatX l n) := Lib.hid fun n h h2 => .inr ⟨h, h2⟩
  generalize BatX l = GX at H5 HN ⊢
  obtain ⟨A, cap, rfl⟩ := hl.form
  have hB0 := Below.refl w.heap.size w
  by_cases h256 : 256 < l.length
  · have hc : decide ((256 : Int) < l.length) = true := decide_eq_true (by omega)
    have HR := Lib.hid (H5.out h256)
    clear h256 H5 HN
    go_enter Tryz.func11, Tryz.ntmps11
    go_wp2
    go_ret
    exact ⟨5, rfl, HR.out, hB0⟩
  · have hc : decide ((256 : Int) < l.length) = false := decide_eq_false (by omega)
    have HGn : RowKit.Hid (∀ n, ScanE l (batE l) n → GX n) := Lib.hid fun n h => HN.out n (by omega) h
    have hfew : l.length ≤ 256 := by omega
    clear h256 H5 HN
    go_enter Tryz.func11, Tryz.ntmps11
    go_wp2
    go_loopw [3] (fun i wr => ∃ k : Nat, k ≤ l.length ∧ i = .int .i64 k ∧ PreE l (batE l) k ∧ Below w.heap.size w wr) (fun i _ => l.length - (intOf i).toNat)
    case atStart => exact ⟨0, Nat.zero_le _, rfl, PreE.zero _ _, hB0⟩
    case round =>
      clear hB0
      obtain ⟨k, hk, rfl, hp, hX⟩ := hrel
      rename World => w1
      rcases Nat.lt_or_eq_of_le hk with hkn | rfl
      · obtain ⟨⟨nm, kd, gr, un⟩, hc⟩ : ∃ t, l[k]? = some t := ⟨_, List.getElem?_eq_getElem hkn⟩
        obtain ⟨b, o, rfl, -, hb, r0, r1, r2, r3⟩ := bat_cells (hl.below hX) hc
        dsimp only at r0 r1 r2 r3
        have hi0 : (0 : Int) ≤ k := by omega
        have hi1 : (k : Int) < l.length := by omega
        have hcs := batE_cases l k (nm, kd, gr, un)
        dsimp only at hcs
        have hne : nameE nm = if nameB nm then 0 else 8 := rfl
        have hke : nameE kd = if nameB kd then 0 else 8 := rfl
        have kN := fun W => refNameX_ok nm W
        have kK := fun W => refNameX_ok kd W
        generalize nameB nm = nb at kN hne
        generalize nameB kd = kb at kK hke
        have HCS := Lib.hid hcs
        have HNE := Lib.hid hne
        have HKE := Lib.hid hke
        have HP := Lib.hid hp
        have HKK := Lib.hid (show k + 1 ≤ l.length from hkn)
        have HKM := Lib.hid (show l.length - (k + 1) < l.length - k by omega)
        have HWK := Lib.hid (wrapsL (show k < 1048576 by omega))
        clear hcs hne hke hp
        cases nb with
        | false =>
          have ht8 : batE l k (nm, kd, gr, un) = 8 := by
            have h1 := HCS.out
            have h2 := HNE.out
            simp only [Bool.false_eq_true, if_false] at h2
            omega
          have HR := Lib.hid (HGn.out 8 (by have := HP.out.bad hc (by rw [ht8]; decide); rwa [ht8] at this))
          clear ht8
          go_wp2_with (go_at_call 15; with_reducible refine (kN _).mono ?_; rintro e w2 ⟨rfl, rfl⟩)
          go_ret
          exact ⟨8, rfl, HR.out, hX⟩
        | true =>
        cases kb with
        | false =>
          have ht8 : batE l k (nm, kd, gr, un) = 8 := by
            have h1 := HCS.out
            have h2 := HKE.out
            have h3 := HNE.out
            simp only [Bool.false_eq_true, if_false] at h2
            simp only [if_true] at h3
            omega
          have HR := Lib.hid (HGn.out 8 (by have := HP.out.bad hc (by rw [ht8]; decide); rwa [ht8] at this))
          clear ht8
          go_wp2_with (go_at_call 15; (first | with_reducible refine (kN _).mono ?_ | with_reducible refine (kK _).mono ?_); rintro e w2 ⟨rfl, rfl⟩)
          go_ret
          exact ⟨8, rfl, HR.out, hX⟩
        | true =>
        go_wp2_with (go_at_call 15; (first | with_reducible refine (kN _).mono ?_ | with_reducible refine (kK _).mono ?_); rintro e w2 ⟨rfl, rfl⟩)
        clear r0 r1 r2 r3 hb kN kK
        go_loopw [4] (fun j wr2 => ∃ m : Nat, m ≤ k ∧ j = .int .i64 m ∧ (∀ (i : Nat) (s' : BatT), i < m → l[i]? = some s' → s'.1 ≠ nm) ∧ Below w.heap.size w wr2) (fun j _ => k - (intOf j).toNat)
        case atStart => exact ⟨0, Nat.zero_le _, rfl, fun i s' h _ => absurd h (Nat.not_lt_zero i), hX⟩
        case round =>
          clear hX
          obtain ⟨m, hm, rfl, hd, hY⟩ := hrel
          rename World => w3
          obtain ⟨b', o', e5, -, hb, r0, r1, r2, r3⟩ := bat_cells (hl.below hY) hc
          obtain ⟨rfl, rfl⟩ : b = b' ∧ o = o' := by injection e5 with e6; injection e6 with e7 e8; exact ⟨e7, e8⟩
          dsimp only at r0 r1 r2 r3
          rcases Nat.lt_or_eq_of_le hm with hmn | rfl
          · obtain ⟨⟨nm2, kd2, gr2, un2⟩, hc'⟩ : ∃ t, l[m]? = some t := ⟨_, List.getElem?_eq_getElem (by omega)⟩
            obtain ⟨b', o', e5', -, hb', p0, p1, p2, p3⟩ := bat_cells (hl.below hY) hc'
            obtain ⟨rfl, rfl⟩ : b = b' ∧ o = o' := by injection e5' with e6; injection e6 with e7 e8; exact ⟨e7, e8⟩
            dsimp only at p0 p1 p2 p3
            have hj0 : (0 : Int) ≤ m := by omega
            have hj1 : (m : Int) < k := by omega
            have hj2 : (m : Int) < l.length := by omega
            go_wp2_with fail
            go_quiet (fail)
            cases hss : (nm2.toList == nm.toList) with
            | true =>
              have hsame : nm2 = nm := by
                apply Classical.byContradiction
                intro h
                rw [bytes_ne h] at hss
                cases hss
              have ht9 : batE l k (nm, kd, gr, un) = 9 := by
                have h1 := twiceE_yes (s := nm) (l := (l.take k).map (·.1)) (mem_takeF.2 ⟨m, _, hmn, hc', hsame⟩)
                have h2 := HCS.out
                have h3 := HNE.out
                have h4 := HKE.out
                simp only [if_true] at h3 h4
                omega
              have HR := Lib.hid (HGn.out 9 (by have := HP.out.bad hc (by rw [ht9]; decide); rwa [ht9] at this))
              clear ht9 hsame hd
              go_wp2
              go_ret
              exact ⟨9, rfl, HR.out, below_drewN hY _⟩
            | false =>
              go_wp2
              go_roundw
              case rel =>
                refine ⟨m + 1, hmn, by simp, fun i u hi hu => ?_, below_drewN hY _⟩
                rcases Nat.lt_or_eq_of_le (Nat.le_of_lt_succ hi) with h1 | rfl
                · exact hd i u h1 hu
                · obtain rfl := Option.some.inj (hc'.symm.trans hu)
                  rintro rfl
                  simp at hss
              case measure => simp [intOf]; omega
          · have htc : (withinI gr 0 999999999 + withinI un 0 99999 ≠ 0 ∧ batE l m (nm, kd, gr, un) = 3) ∨ (withinI gr 0 999999999 + withinI un 0 99999 = 0 ∧ batE l m (nm, kd, gr, un) = 0) := by
              have h1 := twiceE_no (s := nm) (l := (l.take m).map (·.1)) (fun h => by
                obtain ⟨j, u, h4, h5, h6⟩ := mem_takeF.1 h
                exact hd j u h4 h5 h6)
              have h2 := HCS.out
              have h3 := HNE.out
              have h4 := HKE.out
              simp only [if_true] at h3 h4
              omega
            have kg := fun W => refRange9_ok gr 0 999999999 W
            have ku := fun W => refRange9_ok un 0 99999 W
            have hwg := withinI_cases2 gr 0 999999999
            have hwu := withinI_cases2 un 0 99999
            generalize withinI gr 0 999999999 = eg at htc kg hwg
            generalize withinI un 0 99999 = eu at htc ku hwu
            have e1 := wrap64_small (n := eg + eu) (by omega)
            have e2 := wrap_small (n := eg + eu) (by omega)
            clear hwg hwu
            obtain ⟨wk1, wk2⟩ := HWK.out
            have HT := Lib.hid htc
            clear htc hd
            go_wp2_with fail
            go_quiet (first | with_reducible exact Calls.quiet_of_same (kg _) | with_reducible exact Calls.quiet_of_same (ku _))
            rcases HT.out with ⟨h1, h2⟩ | ⟨h1, h2⟩
            · have hne3 : (eg + eu != 0) = true := by simpa using h1
              have HR := Lib.hid (HGn.out 3 (by have := HP.out.bad hc (by rw [h2]; decide); rwa [h2] at this))
              clear h1 h2 HT e1 e2
              go_wp2
              go_ret
              exact ⟨3, rfl, HR.out, below_drewN hY _⟩
            · have hne3 : (eg + eu != 0) = false := by simpa using h1
              have HS := Lib.hid (HP.out.step hc h2)
              clear h1 h2 HT e1 e2
              go_wp2
              go_roundw
              case rel => exact ⟨_, HKK.out, by simp, HS.out, below_drewN hY _⟩
              case measure => exact HKM.out
      · have HR := Lib.hid (HGn.out 0 (hp.done (Nat.le_refl _)))
        clear hp
        go_wp2
        go_ret
        exact ⟨0, rfl, HR.out, hX⟩
theorem shFirst5 (a b c d f : Int) (blk cap : Nat) (w : World) (h0 : w.cell? ⟨blk, 0, none⟩ = some (.int .i64 a)) (h1 : w.cell? ⟨blk, 1, none⟩ = some (.int .i64 b)) (h2 : w.cell? ⟨blk, 2, none⟩ = some (.int .i64 c)) (h3 : w.cell? ⟨blk, 3, none⟩ = some (.int .i64 d)) (h4 : w.cell? ⟨blk, 4, none⟩ = some (.int .i64 f)) :
    Calls Tryz.prog 49 #[.slice (some ⟨blk, 0, none⟩) 5 cap] w fun e w' => e = .returned (.int .i64 (orL [a, b, c, d, f])) ∧ w' = w := by
  go_enter Tryz.func49, Tryz.ntmps49
  go_wp2
  refine wp_loop_rounds 6 ?_
  rw [rounds_succ]
  go_wp2
  all_goals (try (rw [rounds_succ]; go_wp2))
  all_goals (try (rw [rounds_succ]; go_wp2))
  all_goals (try (rw [rounds_succ]; go_wp2))
  all_goals (try (rw [rounds_succ]; go_wp2))
  all_goals (try (rw [rounds_succ]; go_wp2))
  all_goals go_ret
  all_goals (refine ⟨?_, rfl⟩; simp only [orL]; simp_all)
theorem shBatX_ok (v : Value) (l : List BatT) (w : World) (hl : SlF encB w v l) :
    Calls Tryz.prog 12 #[v] w fun e w' => ∃ n, e = .returned (.int .i64 n) ∧ BatX l n ∧ Below w.heap.size w w' := by
  have H5 : RowKit.Hid (256 < l.length → BatX l 5) := Lib.hid fun h => .inl ⟨h, rfl⟩
  have HN : RowKit.Hid (∀ n, l.length ≤ 256 → ScanE l (batE l) n → BatX l n) := Lib.hid fun n h h2 => .inr ⟨h, h2⟩
  generalize BatX l = GX at H5 HN ⊢
  obtain ⟨A, cap, rfl⟩ := hl.form
  have hB0 := Below.refl w.heap.size w
  by_cases h256 : 256 < l.length
  · have hc : decide ((256 : Int) < l.length) = true := decide_eq_true (by omega)
    have HR := Lib.hid (H5.out h256)
    clear h256 H5 HN
    go_enter Tryz.func12, Tryz.ntmps12
    go_wp2
    go_ret
    exact ⟨5, rfl, HR.out, hB0⟩
  · have hc : decide ((256 : Int) < l.length) = false := decide_eq_false (by omega)
    have HGX : RowKit.Hid (∀ n, ScanE l (batE l) n → GX n) := Lib.hid fun n h => HN.out n (by omega) h
    have hfew : l.length ≤ 256 := by omega
    clear h256 H5 HN
    have hmk := run_makeMap (P := Tryz.prog) 117 w
    have hM0 := NMX.made w
    have hBM : Below w.heap.size w (w.alloc (.map #[] 0)) := hB0.alloc (Nat.le_refl _) _
    have hzM : w.heap.size < (w.alloc (.map #[] 0)).heap.size := by simp
    go_enter Tryz.func12, Tryz.ntmps12
    go_wp2
    clear hmk hB0
    go_loopw [13] (fun i wr => ∃ k : Nat, k ≤ l.length ∧ i = .int .i64 k ∧ PreE l (batE l) k ∧ NMX wr w.heap.size ((l.take k).map (·.1)) ∧ w.heap.size < wr.heap.size ∧ Below w.heap.size w wr) (fun i _ => l.length - (intOf i).toNat)
    case atStart => exact ⟨0, Nat.zero_le _, rfl, PreE.zero _ _, hM0, hzM, hBM⟩
    case round =>
      clear hM0 hzM hBM
      obtain ⟨k, hk, rfl, hp, hM, hz, hBw⟩ := hrel
      rcases Nat.lt_or_eq_of_le hk with hkn | rfl
      · obtain ⟨⟨nm, kd, gr, un⟩, hc⟩ : ∃ t, l[k]? = some t := ⟨_, List.getElem?_eq_getElem hkn⟩
        obtain ⟨b, o, rfl, -, hb, r0, r1, r2, r3⟩ := bat_cells (hl.below hBw) hc
        dsimp only at r0 r1 r2 r3
        have hi0 : (0 : Int) ≤ k := by omega
        have hi1 : (k : Int) < l.length := by omega
        have hsucc : (l.take (k + 1)).map (·.1) = (l.take k).map (·.1) ++ [nm] := by
          rw [List.take_add_one, hc]
          simp
        obtain ⟨Wt, hW⟩ : ∃ Wt, Wt = (wr.alloc (.cells #[.string nm, .string kd, .int .i64 gr, .int .i64 un] 73)) := ⟨_, rfl⟩
        have hb0 : Wt.heap[wr.heap.size]? = some (.cells #[.string nm, .string kd, .int .i64 gr, .int .i64 un] 73 (0, 0)) := by subst hW; exact heap_alloc_new wr _
        have hzt : wr.heap.size < Wt.heap.size := (Array.getElem?_eq_some_iff.1 hb0).1
        have hYt : Below w.heap.size w Wt := by subst hW; exact hBw.alloc hBw.size _
        have hMt : NMX Wt w.heap.size ((l.take k).map (·.1)) := by subst hW; exact hM.keep (Below.heap_alloc _ _ _ hz)
        have kz : ∀ V : World, V.heap[wr.heap.size]? = some (.cells #[.string nm, .string kd, .int .i64 gr, .int .i64 un] 73 (0, 0)) → V.cell? ⟨wr.heap.size, 0, none⟩ = some (.string nm) ∧ V.cell? ⟨wr.heap.size, 1, none⟩ = some (.string kd) ∧ V.cell? ⟨wr.heap.size, 2, none⟩ = some (.int .i64 gr) ∧ V.cell? ⟨wr.heap.size, 3, none⟩ = some (.int .i64 un) := fun V h => four_cells h
        have hky := kz Wt.drew hb0
        have hwB := hBw.size
        have hsl : ∀ W, Calls Tryz.prog 50 #[.string nm] W fun e w' => e = .returned (.int .i64 (nameE nm)) ∧ Below W.heap.size W w' := fun W => shCheckNameX_ok nm W
        have hsk : ∀ W, Calls Tryz.prog 50 #[.string kd] W fun e w' => e = .returned (.int .i64 (nameE kd)) ∧ Below W.heap.size W w' := fun W => shCheckNameX_ok kd W
        have kA := fun W (h : NMX W w.heap.size ((l.take k).map (·.1))) => shAddX_ok w.heap.size ((l.take k).map (·.1)) nm W h
        have kg := fun W => shWithin_ok gr 0 999999999 W
        have ku := fun W => shWithin_ok un 0 99999 W
        have htE : batE l k (nm, kd, gr, un) = orL [nameE nm, nameE kd, twiceE nm ((l.take k).map (·.1)), withinI gr 0 999999999, withinI un 0 99999] := rfl
        have hr2 : orL [nameE nm, nameE kd, twiceE nm ((l.take k).map (·.1)), withinI gr 0 999999999, withinI un 0 99999] = 0 → twiceE nm ((l.take k).map (·.1)) = 0 := fun h => orL_eq0.1 h _ (by simp)
        generalize nameE nm = ea at hsl htE hr2
        generalize nameE kd = ea2 at hsk htE hr2
        generalize twiceE nm ((l.take k).map (·.1)) = eb at kA htE hr2
        generalize withinI gr 0 999999999 = eg at kg htE hr2
        generalize withinI un 0 99999 = eu at ku htE hr2
        have ho := fun blk W => shFirst5 ea ea2 eb eg eu blk 5 W
        generalize orL [ea, ea2, eb, eg, eu] = er at ho htE hr2
        have HP := Lib.hid hp
        have HT := Lib.hid htE
        have HC := Lib.hid hc
        have HR2 := Lib.hid hr2
        have HKK := Lib.hid (show k + 1 ≤ l.length from hkn)
        have HKM := Lib.hid (show l.length - (k + 1) < l.length - k by omega)
        have HWK := Lib.hid (wrapsL (show k < 1048576 by omega))
        clear hM hc hl hp htE hr2
        go_wp2_with fail
        rw [← hW]
        clear hW r0 r1 r2 r3
        go_region_held3 (fun w' => w'.cell? ⟨wr.heap.size, 0, none⟩ = some (.string nm) ∧ w'.cell? ⟨wr.heap.size, 1, none⟩ = some (.string kd) ∧ w'.cell? ⟨wr.heap.size, 2, none⟩ = some (.int .i64 gr) ∧ w'.cell? ⟨wr.heap.size, 3, none⟩ = some (.int .i64 un)) (first | exact hky | exact hkyA | go_keep)
          (first
            | (go_at_call 50; refine (hsl _).mono ?_; rintro e v1 ⟨rfl, hQ1⟩; have hb1 := (hQ1.block wr.heap.size hzt).trans hb0; have hm1 := hMt.keep (hQ1.block w.heap.size (Nat.lt_trans hz hzt)); have hky := kz _ hb1; have hY1 := hYt.drew.trans (hQ1.mono (Nat.le_trans hwB (Nat.le_of_lt hzt))); have hs1 := hQ1.size)
            | (go_at_call 50; refine (hsk _).mono ?_; rintro e v11 ⟨rfl, hQ11⟩; have hb11 := (hQ11.block wr.heap.size (Array.getElem?_eq_some_iff.1 hb1).1).trans hb1; have hm11 := hm1.keep (hQ11.block w.heap.size hm1.lt); have hky := kz _ hb11; have hY11 := hY1.trans (hQ11.mono hY1.size); have hs11 := hm11.lt)
            | (go_at_call 54; refine (kA _ hm11).mono ?_; rintro e v2 ⟨rfl, hg2, l2, hm2, hl2⟩; have hb2 := (hg2.block wr.heap.size (Array.getElem?_eq_some_iff.1 hb11).1 (by simp; omega)).trans hb11; have hky := kz _ hb2; have hY2 := hY11.grown hg2 hY11.size (fun j hj => by injection hj with hj; omega); have hs2 := hg2.size; have hkyA := kz (v2.alloc (.cells #[.int .i64 ea, .int .i64 ea2, .int .i64 eb, .int .i64 eg, .int .i64 eu] 30)).drew ((Below.heap_alloc _ _ _ (Array.getElem?_eq_some_iff.1 hb2).1).trans hb2))
            | (go_at_call 51; (first | with_reducible refine (kg _).mono ?_ | with_reducible refine (ku _).mono ?_); rintro e v3 ⟨rfl, hv3⟩; obtain rfl : v2 = v3 := hv3.symm)
            | (go_at_call 49; refine (ho _ _ ?_ ?_ ?_ ?_ ?_).mono ?_; (go_simp); (go_simp); (go_simp); (go_simp); (go_simp); rintro e w5 ⟨rfl, rfl⟩))
        rename_i hHeld
        clear hHeld hkyA hky hsl hsk hb1 hm1 hb11 hm11 hb2 kz hb0 hMt hYt hQ1 hQ11 hY1 hY11 ho kA kg ku
        have hm4 : NMX (v2.alloc (.cells #[.int .i64 ea, .int .i64 ea2, .int .i64 eb, .int .i64 eg, .int .i64 eu] 30)) w.heap.size l2 := hm2.keep (Below.heap_alloc _ _ _ hm2.lt)
        have hY4 := hY2.alloc hY2.size (.cells #[.int .i64 ea, .int .i64 ea2, .int .i64 eb, .int .i64 eg, .int .i64 eu] 30)
        have hz4 : w.heap.size < (v2.alloc (.cells #[.int .i64 ea, .int .i64 ea2, .int .i64 eb, .int .i64 eg, .int .i64 eu] 30)).heap.size := by have := hm2.lt; simp; omega
        generalize v2.alloc (.cells #[.int .i64 ea, .int .i64 ea2, .int .i64 eb, .int .i64 eg, .int .i64 eu] 30) = v4 at hm4 hY4 hz4 ⊢
        have HL2 := Lib.hid hl2
        have HS := Lib.hid hsucc
        clear hm2 hY2 hg2 hl2 hsucc
        obtain ⟨wk1, wk2⟩ := HWK.out
        by_cases her : er = 0
        · subst her
          have hl3 := HL2.out (HR2.out rfl)
          subst hl3
          rw [← HS.out] at hm4
          go_wp2
          go_roundw
          case rel => exact ⟨k + 1, HKK.out, by simp, HP.out.step HC.out HT.out, hm4, hz4, hY4⟩
          case measure => exact HKM.out
        · have hre : (er != 0) = true := by simpa using her
          have HR := Lib.hid (HGX.out er (by have := HP.out.bad HC.out (by rw [HT.out]; exact her); rwa [HT.out] at this))
          go_wp2
          go_ret
          exact ⟨er, rfl, HR.out, hY4⟩
      · have HR := Lib.hid (HGX.out 0 (hp.done (Nat.le_refl _)))
        clear hp
        go_wp2
        go_ret
        exact ⟨0, rfl, HR.out, hBw⟩
end Go.Proofs
